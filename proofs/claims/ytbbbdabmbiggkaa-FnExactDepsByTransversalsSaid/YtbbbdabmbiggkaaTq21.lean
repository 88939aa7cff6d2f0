/- Texts of this claim, merged: MarkD, TabOpen, TpK, TrH. Conditions: as stated. -/
import Derived.Test.YtbbbdabmbiggkaaTq11
import Derived.Test.YtbbbdabmbiggkaaTq2
import Derived.Deep.Matrix
import Derived.Lib.SmallJoins
import Derived.Deep.RegionHeld3
import Derived.Deep.RegionWith
import Derived.Test.YtbbbdabmbiggkaaTq18
import Derived.Test.YtbbbdabmbiggkaaTq16
import Derived.Test.YtbbbdabmbiggkaaTq15
import Derived.Deep.CutBlock
import Derived.Deep.DeepCutAuto
namespace Go.Proofs.Ytbbbdabmbiggkaa
open Go.RowKit

/-- k, k + 1; k + 2, k + 3; and so on. -/
def upD (k : Int) (n : Nat) : List (Int × Int) := (List.range n).map fun (j : Nat) => (k + 2 * (j : Int), k + 2 * (j : Int) + 1)
theorem upD_length (k : Int) (n : Nat) : (upD k n).length = n := by simp [upD]
theorem upD_get (k : Int) (n j : Nat) (h : j < n) : (upD k n).getD j (0, 0) = (k + 2 * (j : Int), k + 2 * (j : Int) + 1) := by
  rw [List.getD_eq_getElem?_getD, List.getElem?_eq_getElem (by rw [upD_length]; exact h)]
  simp [upD]
theorem upD_start (k : Int) (l : List (Int × Int)) : upD k 0 ++ l.drop 0 = l := by simp [upD]
theorem upD_step (k : Int) (l : List (Int × Int)) (j : Nat) (h : j < l.length) : (upD k j ++ l.drop j).set j (k + 2 * (j : Int), k + 2 * (j : Int) + 1) = upD k (j + 1) ++ l.drop (j + 1) := by
  have e : upD k (j + 1) = upD k j ++ [(k + 2 * (j : Int), k + 2 * (j : Int) + 1)] := by simp [upD, List.range_succ]
  rw [List.set_append, if_neg (by rw [upD_length]; omega), upD_length, Nat.sub_self, List.drop_eq_getElem_cons h, e, List.append_assoc]
  rfl
theorem OwnD.num {w : World} {B g n cap : Nat} {ds : List (Int × Int)} (h : OwnD w B (.slice (some ⟨g, 0, none⟩) n cap) ds) : n = ds.length := by
  rcases h.2 with ⟨h', _⟩ | ⟨g', cap', cur, h', _⟩ <;> simp at h'; omega
theorem OwnD.cells2 {w : World} {B g n cap : Nat} {ds : List (Int × Int)} (h : OwnD w B (.slice (some ⟨g, 0, none⟩) n cap) ds) (j : Nat) (hj : j < ds.length) :
    (w.cell? ⟨g, j * 2, none⟩ = some (.int .i64 (ds.getD j (0, 0)).1) ∧ w.cell? ⟨g, j * 2 + 1, none⟩ = some (.int .i64 (ds.getD j (0, 0)).2)) ∧ w.frozen? ⟨g, j * 2, none⟩ = false ∧ w.frozen? ⟨g, j * 2 + 1, none⟩ = false := by
  have hn := h.num
  subst hn
  exact ⟨⟨by rw [World.ownsRow.cellAt h (j * 2) (by omega), (depsV_get ds j hj).1], by rw [World.ownsRow.cellAt h (j * 2 + 1) (by omega), (depsV_get ds j hj).2]⟩, World.ownsRow.frozenAt h _, World.ownsRow.frozenAt h _⟩
theorem OwnD.store2 {w : World} {B g n cap : Nat} {ds : List (Int × Int)} (h : OwnD w B (.slice (some ⟨g, 0, none⟩) n cap) ds) (j : Nat) (a b : Int) :
    OwnD ((w.setCell ⟨g, j * 2, none⟩ (.int .i64 a)).setCell ⟨g, j * 2 + 1, none⟩ (.int .i64 b)) B (.slice (some ⟨g, 0, none⟩) n cap) (ds.set j (a, b)) ∧ w.grownBy ((w.setCell ⟨g, j * 2, none⟩ (.int .i64 a)).setCell ⟨g, j * 2 + 1, none⟩ (.int .i64 b)) (some g) := by
  refine ⟨h.store j a b, ?_⟩
  have hn := h.num
  subst hn
  obtain ⟨h1, h2⟩ := World.ownsRow.stored h (j * 2) (.int .i64 a)
  obtain ⟨h3, h4⟩ := World.ownsRow.stored h1 (j * 2 + 1) (.int .i64 b)
  exact ⟨h4.os.trans h2.os, h4.tape.trans h2.tape, h4.output.trans h2.output, Nat.le_trans h2.size h4.size, fun q hq hne => (h4.block q (Nat.lt_of_lt_of_le hq h2.size) hne).trans (h2.block q hq hne)⟩
set_option maxHeartbeats 1600000 in
theorem markD_any (v : Value) (ds : List (Int × Int)) (k : Int) (B : Nat) (w : World) (ho : OwnD w B v ds) (hl : ds.length ≤ 1048576) (hk0 : -1000000000 ≤ k) (hk1 : k ≤ 1000000000) :
    Calls Try.prog 19 #[v, .int .i64 k] w fun e w' => e = .returned (.int .i64 (k + 2 * (ds.length : Int))) ∧ OwnD w' B v (upD k ds.length) ∧ w.grownBy w' v.ownBlock := by
  rcases ho.2 with ⟨rfl, h0⟩ | ⟨g, cap, cur, rfl, hBg, hgg, -⟩
  · obtain rfl : ds = [] := List.eq_nil_of_length_eq_zero h0
    go_enter Try.func19, Try.ntmps19
    go_wp2_with fail
    refine wp_loop_rounds 1 ?_
    rw [rounds_succ]
    go_wp2_with fail
    go_ret
    exact ⟨ret_int (by simp), by simpa [upD] using ho, World.grownBy.refl _ _⟩
  · clear hgg
    go_enter Try.func19, Try.ntmps19
    go_wp2_with fail
    go_loopw [1, 5] (fun kv iv wr => ∃ j : Nat, j ≤ ds.length ∧ kv = .int .i64 (k + 2 * (j : Int)) ∧ iv = .int .i64 (j : Int) ∧ OwnD wr B (.slice (some ⟨g, 0, none⟩) ds.length cap) (upD k j ++ ds.drop j) ∧ w.grownBy wr (some g)) (fun _ iv _ => ds.length - (intOf iv).toNat)
    case atStart => exact ⟨0, by omega, by simp, rfl, by rw [upD_start]; exact ho, World.grownBy.refl _ _⟩
    case round =>
      clear ho
      obtain ⟨j, hj, rfl, rfl, ho', hg⟩ := hrel
      by_cases hlt : j < ds.length
      · obtain ⟨⟨h0, h1⟩, f0, f1⟩ := ho'.cells2 j (by rw [List.length_append, upD_length, List.length_drop]; omega)
        have z0 : (0 : Int) ≤ (j : Int) := by omega
        have z1 : (j : Int) < (ds.length : Int) := by omega
        have z2 : IntKind.i64.wrap (k + 2 * (j : Int) + 1) = k + 2 * (j : Int) + 1 := IntWalk.i64_in _ (by omega)
        have z3 : IntKind.i64.wrap (k + 2 * (j : Int) + 1 + 1) = k + 2 * (j : Int) + 1 + 1 := IntWalk.i64_in _ (by omega)
        obtain ⟨s1, s2⟩ := ho'.store2 j (k + 2 * (j : Int)) (k + 2 * (j : Int) + 1)
        rw [upD_step k ds j hlt] at s1
        have S1 := Lib.hid s1
        have S2 := Lib.hid s2
        have HG := Lib.hid hg
        clear s1 s2 hg ho'
        go_wp2_with fail
        go_roundw
        case rel => exact ⟨j + 1, by omega, by go_num, by go_num, S1.out, ⟨S2.out.os.trans HG.out.os, S2.out.tape.trans HG.out.tape, S2.out.output.trans HG.out.output, Nat.le_trans HG.out.size S2.out.size, fun q hq hne => (S2.out.block q (Nat.lt_of_lt_of_le hq HG.out.size) hne).trans (HG.out.block q hq hne)⟩⟩
        case measure => simp [intOf]; omega
      · obtain rfl : j = ds.length := by omega
        go_wp2_with fail
        go_ret
        rw [List.drop_eq_nil_of_le (Nat.le_refl _), List.append_nil] at ho'
        exact ⟨rfl, ho', hg⟩
set_option maxHeartbeats 1600000 in
theorem heldD_any (v : Value) (n : Nat) (k : Int) (w : World) (hr : ReadD w v (upD k n)) (hl : n ≤ 1048576) (hk0 : -1000000000 ≤ k) (hk1 : k ≤ 1000000000) :
    Calls Try.prog 20 #[v, .int .i64 k] w fun e w' => e = .returned (.int .i64 (k + 2 * (n : Int))) ∧ w = w' := by
  obtain ⟨a, cap, rfl, ha⟩ := hr
  rw [upD_length]
  have HA : Hid (∀ i, i < n → ∃ b o, a = some ⟨b, o, none⟩ ∧ w.cell? ⟨b, o + i * 2, none⟩ = some (.int .i64 (k + 2 * (i : Int))) ∧ w.cell? ⟨b, o + i * 2 + 1, none⟩ = some (.int .i64 (k + 2 * (i : Int) + 1))) := Lib.hid fun i hi => by
    obtain ⟨b, o, e1, e2, e3⟩ := ha i (by rw [upD_length]; exact hi)
    rw [upD_get k n i hi] at e2 e3
    exact ⟨b, o, e1, e2, e3⟩
  clear ha
  go_enter Try.func20, Try.ntmps20
  go_wp2_with fail
  go_loop [1, 5] (fun kv iv => ∃ j : Nat, j ≤ n ∧ kv = .int .i64 (k + 2 * (j : Int)) ∧ iv = .int .i64 (j : Int)) (fun _ iv => n - (intOf iv).toNat)
  case atStart => exact ⟨0, by omega, by simp, rfl⟩
  case round =>
    obtain ⟨j, hj, rfl, rfl⟩ := hrel
    by_cases hlt : j < n
    · obtain ⟨b, o, rfl, h0, h1⟩ := HA.out j hlt
      have z0 : (0 : Int) ≤ (j : Int) := by omega
      have z1 : (j : Int) < (n : Int) := by omega
      have z2 : IntKind.i64.wrap (k + 2 * (j : Int) + 1) = k + 2 * (j : Int) + 1 := IntWalk.i64_in _ (by omega)
      have z3 : IntKind.i64.wrap (k + 2 * (j : Int) + 1 + 1) = k + 2 * (j : Int) + 1 + 1 := IntWalk.i64_in _ (by omega)
      have hb : (k + 2 * (j : Int) != k + 2 * (j : Int)) = false := by simp
      have hb1 : (k + 2 * (j : Int) + 1 != k + 2 * (j : Int) + 1) = false := by simp
      go_wp2_with fail
      go_round
      case rel => exact ⟨j + 1, by omega, by go_num, by go_num⟩
      case measure => simp [intOf]; omega
    · obtain rfl : j = n := by omega
      go_wp2_with fail
      go_ret
      exact ⟨rfl, rfl⟩
/-! ### With their bounds -/
def OwnDR (w : World) (B C : Nat) (v : Value) (l : List (Int × Int)) : Prop := OwnD w B v l ∧ ∀ g, v.ownBlock = some g → g < C
theorem OwnD.range {w : World} {B : Nat} {v : Value} {l : List (Int × Int)} (h : OwnD w B v l) : OwnDR w B w.heap.size v l := ⟨h, fun g hg => (h.lt g hg).2⟩
theorem OwnDR.same {w w' : World} {B C : Nat} {v : Value} {l : List (Int × Int)} (h : OwnDR w B C v l) (hs : Same B C w w') : OwnDR w' B C v l := by
  refine ⟨⟨h.1.1, ?_⟩, h.2⟩
  rcases h.1.2 with hn | ⟨g, cap, cur, rfl, hB, hgg, rest⟩
  · exact .inl hn
  · exact .inr ⟨g, cap, cur, rfl, hB, (hs g hB (h.2 g rfl)).trans hgg, rest⟩
theorem OwnDR.read {w : World} {B C : Nat} {v : Value} {l : List (Int × Int)} (h : OwnDR w B C v l) : ReadD w v l := h.1.read
def MarkDs (k : Int) (l : List (Int × Int)) (B C : Nat) (v : Value) (w : World) (e : Ending) (w' : World) : Prop := e = .returned (.int .i64 (k + 2 * (l.length : Int))) ∧ OwnDR w' B C v (upD k l.length) ∧ Mid B C w w'
theorem markDepR_any (v : Value) (l : List (Int × Int)) (k : Int) (B C : Nat) (w : World) (ho : OwnDR w B C v l) (hl : l.length ≤ 1048576) (hk0 : -1000000000 ≤ k) (hk1 : k ≤ 1000000000) :
    Calls Try.prog 19 #[v, .int .i64 k] w (MarkDs k l B C v w) :=
  (markD_any v l k B w ho.1 hl hk0 hk1).mono fun _ _ ⟨a, b, c⟩ => ⟨a, ⟨b, ho.2⟩, Mid.ofGrown c fun g hg => ⟨(ho.1.lt g hg).1, ho.2 g hg⟩⟩
theorem heldDepR_any (v : Value) (n : Nat) (k : Int) (w : World) (hr : ReadD w v (upD k n)) (hl : n ≤ 1048576) (hk0 : -1000000000 ≤ k) (hk1 : k ≤ 1000000000) :
    Calls Try.prog 20 #[v, .int .i64 k] w fun e w' => e = .returned (.int .i64 (k + 2 * (n : Int))) ∧ Below w.heap.size w w' :=
  (heldD_any v n k w hr hl hk0 hk1).mono fun _ w' ⟨a, b⟩ => ⟨a, by rw [← b]; exact Below.refl _ _⟩
end Go.Proofs.Ytbbbdabmbiggkaa
namespace Go.Proofs.Ytbbbdabmbiggkaa
open Go.ChangeShapes Go.WideShapes Go.Joins Go.RowKit Go.Deep

theorem cellsTab : Try.prog.cellsOf 30 = 2 := by kernel_rfl
section
variable {H : Type} {enc : TypeId × Value → H} {w : World} {base : Nat} {held : Bool}
theorem open_rows {fuel : Nat} {v : Value} {x : DataW H × List MemPlace} (h : DataW.trod enc Try.prog w base (fun _ => true) held fuel 28 [v] = some x) : ∃ ll, ReadSS w v ll ∧ Short ll := by
  rcases open_int_rows Try.underlying28 Try.underlying22 Try.underlying3 (by kernel_rfl) (by kernel_rfl) h with ⟨hcs, -⟩ | ⟨a, len, cap, A, L, C, Z, hcs, -, hl, hm, -, hr⟩
  · simp at hcs
    subst hcs
    exact ⟨[], ReadSS.nil _, ⟨Nat.zero_le _, fun i hi => absurd hi (Nat.not_lt_zero _)⟩⟩
  · simp at hcs
    subst hcs
    have hlen : ((List.range len).map fun r => (Z r).take (L r)).length = len := by simp
    have hget : ∀ i, i < len → ((List.range len).map fun r => (Z r).take (L r)).getD i [] = (Z i).take (L i) := fun i hi => by
      rw [List.getD_eq_getElem?_getD, List.getElem?_eq_getElem (by rw [hlen]; exact hi)]; simp
    have hrl : ∀ i, i < len → ((Z i).take (L i)).length = L i := fun i hi => by
      obtain ⟨-, h1, -, h2, -⟩ := hr i (by omega)
      rw [List.length_take]; omega
    refine ⟨(List.range len).map fun r => (Z r).take (L r), ⟨some a, cap, by rw [hlen], fun i hi => ?_⟩, by rw [hlen]; unfold maxLen at hm; omega, fun i hi => ?_⟩
    · rw [hlen] at hi
      obtain ⟨h0, h1, h2, h3, h4, h5, h6⟩ := hr i (by omega)
      rw [hget i hi]
      refine ⟨a, _, rfl, h0, A i, C i, by rw [hrl i hi], fun j hj => ?_⟩
      rw [hrl i hi] at hj
      cases hA : A i with
      | none => have := h5 hA; omega
      | some a' =>
        refine ⟨a', rfl, ?_⟩
        rw [(h6 a' hA).2 j (by omega)]
        simp only [List.getElem_take]
        rw [List.getD_eq_getElem?_getD, List.getElem?_eq_getElem (by omega)]
        rfl
    · rw [hlen] at hi
      rw [hget i hi, hrl i hi]
      obtain ⟨-, h1, h2, -⟩ := hr i (by omega)
      unfold maxLen at h2; omega
set_option maxRecDepth 20000 in
theorem open_table {r : Reach} {b0 : Nat} {v : Value} {d : DataW H} {p : List MemPlace} (hv : Value.okWide Try.prog w r b0 30 v) (h : DataW.Trod enc Try.prog w base (fun _ => true) held 30 v d p) :
    ∃ (c : Int) (u : Value) (ll : List (List Int)), v = .agg #[.int .i64 c, u] ∧ (Lit.int .i64 c).wf = true ∧ ReadSS w u ll ∧ Short ll := by
  obtain ⟨c0, c1, y0, y1, m, rfl, -, -, hy0, hy1⟩ := open_agg2 Try.underlying30 (by kernel_rfl) cellsTab hv h
  obtain ⟨n, hn, -, hwf⟩ := DataW.trod_int Try.underlying3 hy0
  simp at hn
  subst hn
  obtain ⟨ll, h1, h2⟩ := open_rows hy1
  exact ⟨n, c1, ll, rfl, hwf, h1, h2⟩
end
end Go.Proofs.Ytbbbdabmbiggkaa
namespace Go.Proofs.Ytbbbdabmbiggkaa
open Go.RowKit

theorem ktL_len (c : Int) (ll : List (List Int)) (m : Int) : (ktL c ll m).length ≤ 10 := by
  unfold ktL
  split
  · exact trL_ten _ _
  · exact Nat.zero_le _
section
set_option maxRecDepth 20000
set_option maxHeartbeats 3200000
theorem implKeysT_any (c m : Int) (v : Value) (ll : List (List Int)) (w : World) (hr : ReadSS w v ll) (hl : ll.length ≤ 1048576) (ht : ∀ i, i < ll.length → (ll.getD i []).length ≤ 1048576) (hcap : CapOk v) :
    Calls Try.prog 22 #[.agg #[.int .i64 c, v], .int .i64 m] w (RetI (ktL c ll m) w) := by
  obtain ⟨i0, hi, hz0, hz1, hz2⟩ := info_parts info3i
  have HI : Hid (_ ∧ _ ∧ _ ∧ _) := Lib.hid ⟨hi, hz0, hz1, hz2⟩
  clear hi hz0 hz1 hz2
  have hb1 := (Below.refl w.heap.size w).alloc (Nat.le_refl _) (.cells #[.int .i64 c, v] 34)
  have HF := Lib.hid (fun w' (hb : Below w.heap.size w w') => inMode_any c m v ll w' (hr.kept hb) hl ht)
  have HAS := Lib.hid (fun w' (hb : Below w.heap.size w w') => implAgreeSetsM_any c m v ll w' (hr.kept hb) hl ht hcap)
  have HTR := Lib.hid (fun (v : Value) (E : List Int) w' (h : ReadI w' v E) (hl : E.length ≤ 1048576) (hb : I64s E) => implTrans_any v E c w' h hl hb)
  have HB1 := Lib.hid hb1
  obtain ⟨c0, c1⟩ := zero2 w 34 (.int .i64 c) v
  obtain ⟨a, cap, rfl, -⟩ := hr
  clear hb1 ht hcap
  cases hf : fineT c ll m with
  | false =>
    have HE : Hid (ktL c ll m = []) := Lib.hid (by unfold ktL; rw [hf]; rfl)
    rw [hf] at HF
    clear hf
    go_enter Try.func22, Try.ntmps22
    go_wp2_with fail
    refine (HF.out _ HB1.out).mono ?_
    rintro e w1 ⟨rfl, b1⟩
    have HN := Lib.hid (HB1.out.trans (b1.mono HB1.out.size))
    clear b1
    go_wp2_with fail
    go_ret
    exact ⟨_, rfl, by rw [HE.out]; exact World.ownsRow_nil _ _ _ _, HN.out⟩
  | true =>
    rw [hf] at HF
    have hT := fineT_isT hf
    obtain ⟨hc1, hc5, h40⟩ := isT_bd hT
    obtain ⟨C, rfl⟩ : ∃ C : Nat, c = (C : Int) := ⟨c.toNat, by omega⟩
    have HE : Hid (ktL (C : Int) ll m = trL ((agrS (C : Int) ll m).map (coV C)) (C : Int)) := Lib.hid (by unfold ktL; rw [if_pos hf]; rfl)
    have hval : ∀ y ∈ agrS (C : Int) ll m, valB y = true := fun y hy => by
      obtain ⟨a, b, -, -, rfl⟩ := (agrS_mem9 hf (by omega) y).1 hy
      exact val_nat (agX_eq (by omega) ll m a b).2.2.1
    have hA : (agrS (C : Int) ll m).length ≤ 32 := asc_len (agrS_asc9 _ _ _) hval
    have HIQ : Hid (I64s ((agrS (C : Int) ll m).map (coV C))) := Lib.hid (setsOk_i64 fun z hz => by
      obtain ⟨y, hy, rfl⟩ := List.mem_map.1 hz
      obtain ⟨Y, rfl, hY⟩ := valN (hval y hy)
      have h := co_fin ⟨C, by omega⟩ ⟨Y, hY⟩
      have h32 := two5 (show C ≤ 5 by omega)
      simp only at h
      rw [h.1]
      exact val_nat (by omega))
    have HAL : Hid (∀ w', Calls Try.prog 44 #[.int .i64 (C : Int)] w' fun e w'' => e = .returned (.int .i64 (2 ^ C - 1)) ∧ w' = w'') := Lib.hid (fun w' => first_any (C : Int) w' (by omega) (by omega))
    obtain ⟨A, hAA⟩ : ∃ A, A = agrS (C : Int) ll m := ⟨_, rfl⟩
    rw [← hAA] at HE hA HAS HIQ
    clear hf hT hAA hval
    go_enter Try.func22, Try.ntmps22
    go_wp2_with fail
    refine (HF.out _ HB1.out).mono ?_
    rintro e w1 ⟨rfl, b1⟩
    have hb1 := HB1.out.trans (b1.mono HB1.out.size)
    replace c0 := (b1.cell (World.block_lt_of_cell? _ _ c0)).trans c0
    replace c1 := (b1.cell (World.block_lt_of_cell? _ _ c1)).trans c1
    have hs1 := b1.size
    rw [World.size_alloc] at hs1
    clear b1
    go_wp2_with fail
    refine (HAS.out _ hb1).mono ?_
    rintro e w2 ⟨va, rfl, oa, b2⟩
    have HB := Lib.hid (hb1.trans (b2.mono hb1.size))
    have HBX := Lib.hid ((b2.cell (World.block_lt_of_cell? _ _ c0)).trans c0)
    have HB2S := Lib.hid (Nat.le_trans hs1 b2.size)
    obtain ⟨aa, ca, hva, hca⟩ := oa.read
    subst hva
    have HCA := Lib.hid hca
    clear b2 oa hb1 c0 c1 hca hs1
    go_wp2_with fail
    go_loopw [5, 16] (fun ov iv wr => ∃ (i : Nat) (q : List Int), i ≤ A.length ∧ iv = .int .i64 (i : Int) ∧ Hid (q = (A.take i).map (coV C)) ∧ Hid (OwnI wr w2.heap.size ov q) ∧ Hid (Below w2.heap.size w2 wr)) (fun _ iv _ => A.length - (intOf iv).toNat)
    case atStart => exact ⟨0, [], by omega, rfl, Lib.hid rfl, Lib.hid (World.ownsRow_nil _ _ _ _), Lib.hid (Below.refl _ _)⟩
    case round =>
      obtain ⟨i, q, hi, rfl, hq, HO, HBW⟩ := hrel
      obtain ⟨w4, hw4⟩ : ∃ w', w' = wr := ⟨_, rfl⟩
      rw [← hw4] at HO HBW ⊢
      clear hw4
      have c0 := cell_inB HBX.out HBW.out
      have z0 : (0 : Int) ≤ (i : Int) := by omega
      have hql : q.length ≤ 32 := by rw [hq.out, List.length_map, List.length_take]; omega
      by_cases hlt : i < A.length
      · obtain ⟨b, rfl, hb4⟩ := HCA.out i hlt
        have z1 : (i : Int) < (A.length : Int) := by omega
        have HX : Hid ((A.take (i + 1)).map (coV C) = q ++ [coV C A[i]]) := Lib.hid (by rw [List.take_succ_eq_append_getElem hlt, List.map_append, hq.out]; rfl)
        obtain ⟨y, hy⟩ : ∃ y, y = A[i] := ⟨_, rfl⟩
        rw [← hy] at hb4 HX
        have hb5 := cell_inB hb4 HBW.out
        clear hy hb4 hq
        go_wp2_with fail
        refine (HAL.out _).mono ?_
        rintro e w' ⟨rfl, rfl⟩
        have ho6 := HO.out
        go_wp2_with (at_builtin; refine wpList_append_own _ rfl _ _ 22 rfl w2.heap.size 3 i0 (.int .i64 0) 1 8 Try.underlying22 HI.out.1 HI.out.2.1 HI.out.2.2.1 HI.out.2.2.2 rfl (by decide) _ _ _ rfl (World.ownsRow.alloc ho6 _) ⟨w4.heap.size, 0, none⟩ 1 1 [.int .i64 (coV C y)] rfl rfl (cell_one_new _ _ _) (one_i64 _) (by unfold maxLen; omega) (by omega) (by have := HBW.out.size; simp; omega) ?_; intro v7 w7 hown7 hgrow7 _; have HO7 := Lib.hid (OwnI.snoc hown7); have HB7 := Lib.hid ((HBW.out.alloc HBW.out.size (.cells #[.int .i64 (coV C y)] 3)).grown hgrow7 (by rw [World.size_alloc]; have := HBW.out.size; omega) (fun k hk => (OwnI.lt HO.out k hk).1)); clear hown7 hgrow7 ho6 c0 hb5)
        go_roundw
        case rel => exact ⟨i + 1, _, by omega, by go_num, Lib.hid HX.out.symm, HO7, HB7⟩
        case measure => simp [intOf]; omega
      · obtain rfl : i = A.length := by omega
        have hq2 : q = A.map (coV C) := by rw [hq.out, List.take_length]
        have HE2 : Hid (ktL (C : Int) ll m = trL q (C : Int)) := Lib.hid (by rw [HE.out, ← hq2])
        have HI2 : Hid (I64s q) := Lib.hid (by rw [hq2]; exact HIQ.out)
        have HB4 := Lib.hid (HB.out.trans (HBW.out.mono HB.out.size))
        clear hq2 hq
        go_wp2_with fail
        refine (HTR.out _ q _ HO.out.read (by omega) HI2.out).mono ?_
        rintro e w5 ⟨v5, rfl, o5, b5⟩
        have hb5 := HB4.out.trans (b5.mono HB4.out.size)
        have o6 := o5.base HB4.out.size
        clear o5 b5
        go_wp2_with fail
        go_ret
        exact ⟨_, rfl, by rw [HE2.out]; exact o6, hb5⟩
end
end Go.Proofs.Ytbbbdabmbiggkaa
namespace Go.Proofs.Ytbbbdabmbiggkaa
open Go.RowKit

section
set_option maxRecDepth 20000
set_option maxHeartbeats 3200000
theorem keysT9_any (c m : Int) (v : Value) (ll : List (List Int)) (w : World) (hr : ReadSS w v ll) (hl : ll.length ≤ 1048576) (ht : ∀ i, i < ll.length → (ll.getD i []).length ≤ 1048576) :
    Calls Try.prog 21 #[.agg #[.int .i64 c, v], .int .i64 m] w (RetI (ktL c ll m) w) := by
  obtain ⟨i0, hi, hz0, hz1, hz2⟩ := info_parts info3i
  have HI : Hid (_ ∧ _ ∧ _ ∧ _) := Lib.hid ⟨hi, hz0, hz1, hz2⟩
  clear hi hz0 hz1 hz2
  have hb1 := (Below.refl w.heap.size w).alloc (Nat.le_refl _) (.cells #[.int .i64 c, v] 34)
  have HF := Lib.hid (fun w' (hb : Below w.heap.size w w') => l4Fine_any c m v ll w' (hr.kept hb) hl ht)
  have HAS := Lib.hid (fun w' (hb : Below w.heap.size w w') => agreeSets_any c m v ll w' (hr.kept hb) hl ht)
  have HTR := Lib.hid (fun (v : Value) (E : List Int) w' (h : ReadI w' v E) (hl : E.length ≤ 1048576) => trans9_any v E c w' h hl)
  have HB1 := Lib.hid hb1
  obtain ⟨c0, c1⟩ := zero2 w 34 (.int .i64 c) v
  obtain ⟨a, cap, rfl, -⟩ := hr
  clear hb1 ht
  cases hf : fineT c ll m with
  | false =>
    have HE : Hid (ktL c ll m = []) := Lib.hid (by unfold ktL; rw [hf]; rfl)
    rw [hf] at HF
    clear hf
    go_enter Try.func21, Try.ntmps21
    go_wp2_with fail
    refine (HF.out _ HB1.out).mono ?_
    rintro e w1 ⟨rfl, b1⟩
    have HN := Lib.hid (nil_own w w1 (HB1.out.trans (b1.mono HB1.out.size)))
    clear b1
    go_wp2_with fail
    go_ret
    exact ⟨_, rfl, by rw [HE.out]; exact HN.out.1, HN.out.2⟩
  | true =>
    rw [hf] at HF
    have hT := fineT_isT hf
    obtain ⟨hc1, hc5, h40⟩ := isT_bd hT
    obtain ⟨C, rfl⟩ : ∃ C : Nat, c = (C : Int) := ⟨c.toNat, by omega⟩
    have HE : Hid (ktL (C : Int) ll m = trL ((agrS (C : Int) ll m).map (coV C)) (C : Int)) := Lib.hid (by unfold ktL; rw [if_pos hf]; rfl)
    have hA : (agrS (C : Int) ll m).length ≤ 32 := asc_len (agrS_asc9 _ _ _) fun y hy => by
      obtain ⟨a, b, -, -, rfl⟩ := (agrS_mem9 hf (by omega) y).1 hy
      exact val_nat (agX_eq (by omega) ll m a b).2.2.1
    have HAL : Hid (∀ w', Calls Try.prog 42 #[.int .i64 (C : Int)] w' fun e w'' => e = .returned (.int .i64 (2 ^ C - 1)) ∧ w' = w'') := Lib.hid (fun w' => by have h := all_any (C : Int) w' (by omega) (by omega); rw [show ((C : Int)).toNat = C from rfl] at h; exact h)
    obtain ⟨A, hAA⟩ : ∃ A, A = agrS (C : Int) ll m := ⟨_, rfl⟩
    rw [← hAA] at HE hA HAS
    clear hf hT hAA
    go_enter Try.func21, Try.ntmps21
    go_wp2_with fail
    refine (HF.out _ HB1.out).mono ?_
    rintro e w1 ⟨rfl, b1⟩
    have hb1 := HB1.out.trans (b1.mono HB1.out.size)
    have s1 := b1.size
    rw [World.size_alloc] at s1
    replace c0 := (b1.cell (World.block_lt_of_cell? _ _ c0)).trans c0
    replace c1 := (b1.cell (World.block_lt_of_cell? _ _ c1)).trans c1
    have hal := (Below.refl w1.heap.size w1).alloc (Nat.le_refl _) (.cells #[] 3)
    have ho2 : OwnI (w1.alloc (.cells #[] 3)) (w.heap.size + 1) (.slice (some ⟨w1.heap.size, 0, none⟩) 0 0) [] := OwnI.made (World.ownsRow_made w1 #[] 0 s1 (by unfold maxLen; omega) rfl)
    have hb2 := hb1.alloc hb1.size (.cells #[] 3)
    have c02 := (hal.cell (World.block_lt_of_cell? _ _ c0)).trans c0
    have c12 := (hal.cell (World.block_lt_of_cell? _ _ c1)).trans c1
    clear b1 hb1 hal
    go_wp2_with fail
    refine (HAS.out _ hb2).mono ?_
    rintro e w2 ⟨va, rfl, oa, b2⟩
    have HB := Lib.hid (hb2.trans (b2.mono hb2.size))
    have HO := Lib.hid (ho2.kept b2 (fun k hk => (ho2.lt k hk).2))
    have HBX := Lib.hid (And.intro ((b2.cell (World.block_lt_of_cell? _ _ c02)).trans c02) ((b2.cell (World.block_lt_of_cell? _ _ c12)).trans c12))
    obtain ⟨aa, ca, hva, -⟩ := oa.read
    subst hva
    have HAP : Hid (∀ g, (Value.slice (some ⟨w1.heap.size, 0, none⟩) 0 0).ownBlock = some g → (Value.slice aa A.length ca).ownBlock ≠ some g) := Lib.hid (by
      intro g hg e
      simp only [Value.ownBlock, Option.some.injEq] at hg
      subst hg
      have := (oa.lt _ e).1
      simp at this
      omega)
    have HAA := Lib.hid (oa.base (B' := w.heap.size) (by have := hb2.size; exact this))
    have HBS : Hid (w.heap.size + 1 ≤ w2.heap.size) := Lib.hid (by have := b2.size; simp at this; omega)
    clear b2 oa ho2 hb2 c0 c1 c02 c12 s1
    go_wp2_with fail
    go_loopw [5, 7] (fun ov iv wr => ∃ (i : Nat) (q : List Int), i ≤ A.length ∧ iv = .int .i64 (i : Int) ∧ Hid (q = (A.take i).map (coV C)) ∧ Hid (OwnI wr (w.heap.size + 1) ov q) ∧ Hid (OwnI wr w.heap.size (.slice aa A.length ca) A) ∧ Hid (∀ g, ov.ownBlock = some g → (Value.slice aa A.length ca).ownBlock ≠ some g) ∧ Hid (wr.cell? ⟨w.heap.size, 0, none⟩ = some (.int .i64 (C : Int))) ∧ Hid (Below w.heap.size w wr ∧ w.heap.size + 1 ≤ wr.heap.size)) (fun _ iv _ => A.length - (intOf iv).toNat)
    case atStart => exact ⟨0, [], by omega, rfl, Lib.hid rfl, HO, HAA, HAP, Lib.hid HBX.out.1, Lib.hid ⟨HB.out, HBS.out⟩⟩
    case round =>
      clear HO HAA HAP HBX HB HBS
      obtain ⟨i, q, hi, rfl, hq, HO, HAA, HAP, HBX, HBB⟩ := hrel
      obtain ⟨w4, hw4⟩ : ∃ w', w' = wr := ⟨_, rfl⟩
      rw [← hw4] at HO HAA HBX HBB ⊢
      clear hw4
      have HB := Lib.hid HBB.out.1
      have HBS := Lib.hid HBB.out.2
      have c0 := HBX.out
      have z0 : (0 : Int) ≤ (i : Int) := by omega
      have hql : q.length ≤ 32 := by rw [hq.out, List.length_map, List.length_take]; omega
      by_cases hlt : i < A.length
      · obtain ⟨b, rfl, hb4⟩ : ∃ b, aa = some b ∧ w4.cell? (b.add i) = some (.int .i64 A[i]) := by
          obtain ⟨a', cap', hv, hc⟩ := HAA.out.read
          cases hv
          exact hc i hlt
        have z1 : (i : Int) < (A.length : Int) := by omega
        have HX : Hid ((A.take (i + 1)).map (coV C) = q ++ [coV C A[i]]) := Lib.hid (by rw [List.take_succ_eq_append_getElem hlt, List.map_append, hq.out]; rfl)
        have HRA : Hid (∀ w', OwnI w' w.heap.size (.slice (some b) A.length ca) A → w'.cell? (b.add i) = some (.int .i64 A[i])) := Lib.hid (fun w' h => by
          obtain ⟨a', cap', hv, hc⟩ := h.read
          cases hv
          obtain ⟨b', e1, e2⟩ := hc i hlt
          cases e1
          exact e2)
        obtain ⟨y, hy⟩ : ∃ y, y = A[i] := ⟨_, rfl⟩
        rw [← hy] at hb4 HX HRA
        have hor := HO.out
        clear hy
        go_upto_region 8 with fail
        refine wp_region_noPanic ?_
        refine wp_region_held_drew (S := (fun w' => (w'.cell? ⟨w.heap.size, 0, none⟩ = some (.int .i64 (C : Int)) ∧ w'.cell? (b.add i) = some (.int .i64 y)))) (by kernel_rfl) ?_ (fun hHeld => ?_)
        · ((try dsimp only); exact ⟨c0, hb4⟩)
        refine wpAnyH_take (i := 0) (v := ?_) rfl (by kernel_rfl) (by kernel_rfl) (by kernel_rfl) (fun _ _ _ h => h) (Or.inl ⟨by rfl, ?_⟩) (by assumption) ?_
        rotate_left
        · (intro w hSw; (try dsimp only at hSw); go_simp; (try with_reducible rfl))
        (try simp only [Act.put, List.getElem_toArray, List.getElem_cons_zero, List.setIfInBounds_toArray, List.set_cons_zero, List.set_cons_succ])
        refine wpAnyH_take (i := 1) (v := ?_) rfl (by kernel_rfl) (by kernel_rfl) (by kernel_rfl) (fun _ _ _ h => h) (Or.inl ⟨by rfl, ?_⟩) (by assumption) ?_
        rotate_left
        · (intro w hSw; (try dsimp only at hSw); go_simp; (try with_reducible rfl))
        (try simp only [Act.put, List.getElem_toArray, List.getElem_cons_succ, List.getElem_cons_zero, List.setIfInBounds_toArray, List.set_cons_zero, List.set_cons_succ])
        refine wpAnyH_take (i := 2) (v := ?_) rfl (by kernel_rfl) (by kernel_rfl) (by kernel_rfl) (fun _ _ _ h => h) (Or.inl ⟨by rfl, ?_⟩) (by assumption) ?_
        rotate_left
        · (intro w hSw; (try dsimp only at hSw); go_simp; (try with_reducible rfl))
        (try simp only [Act.put, List.getElem_toArray, List.getElem_cons_succ, List.getElem_cons_zero, List.setIfInBounds_toArray, List.set_cons_zero, List.set_cons_succ])
        refine wpAnyH_take (i := 4) (v := ?_) rfl (by kernel_rfl) (by kernel_rfl) (by kernel_rfl) (fun _ _ _ h => h) (Or.inl ⟨by rfl, ?_⟩) (by assumption) ?_
        rotate_left
        · (intro w hSw; (try dsimp only at hSw); go_simp; (try with_reducible rfl))
        (try simp only [Act.put, List.getElem_toArray, List.getElem_cons_succ, List.getElem_cons_zero, List.setIfInBounds_toArray, List.set_cons_zero, List.set_cons_succ])
        refine wpAnyH_take (i := 5) (v := ?_) rfl (by kernel_rfl) (by kernel_rfl) (by kernel_rfl) (fun _ _ _ h => h) (Or.inl ⟨by rfl, ?_⟩) (by assumption) ?_
        rotate_left
        · (intro w hSw; (try dsimp only at hSw); go_simp; (try with_reducible rfl))
        (try simp only [Act.put, List.getElem_toArray, List.getElem_cons_succ, List.getElem_cons_zero, List.setIfInBounds_toArray, List.set_cons_zero, List.set_cons_succ])
        refine wpAnyH_take (i := 6) (v := ?_) rfl (by kernel_rfl) (by kernel_rfl) (by kernel_rfl) (fun _ _ _ h => h) (Or.inl ⟨by rfl, ?_⟩) (by assumption) ?_
        rotate_left
        · (intro w hSw; (try dsimp only at hSw); go_simp; (try with_reducible rfl))
        (try simp only [Act.put, List.getElem_toArray, List.getElem_cons_succ, List.getElem_cons_zero, List.setIfInBounds_toArray, List.set_cons_zero, List.set_cons_succ])
        refine wpAnyH_take (i := 7) (v := ?_) rfl (by kernel_rfl) (by kernel_rfl) (by kernel_rfl) (fun _ _ _ h => h) (Or.inl ⟨by rfl, ?_⟩) (by assumption) ?_
        rotate_left
        · (intro w hSw; (try dsimp only at hSw); go_simp; (try with_reducible rfl))
        (try simp only [Act.put, List.getElem_toArray, List.getElem_cons_succ, List.getElem_cons_zero, List.setIfInBounds_toArray, List.set_cons_zero, List.set_cons_succ])
        refine wpAnyH_ready (rs := [3]) (by kernel_rfl) (by simp) (AllReadyH.cons rfl (fun K hK => ?_) AllReadyH.nil)
        (first | (go_at_call 42; refine (HAL.out _).mono ?_; rintro e w' ⟨rfl, rfl⟩) | (go_simp; go_at_call 42; refine (HAL.out _).mono ?_; rintro e w' ⟨rfl, rfl⟩))
        (try (go_wp2_with fail))
        refine hK.out _ _ ?_ (fun hHeld => ?_)
        · ((try dsimp only); exact hHeld)
        clear hK K
        (try simp only [Act.put, List.getElem_toArray, List.getElem_cons_succ, List.getElem_cons_zero, List.setIfInBounds_toArray, List.set_cons_zero, List.set_cons_succ])
        refine wpAnyH_take (i := 8) (v := ?_) rfl (by kernel_rfl) (by kernel_rfl) (by kernel_rfl) (fun _ _ _ h => h) (Or.inl ⟨by rfl, ?_⟩) (by assumption) ?_
        rotate_left
        · (intro w hSw; (try dsimp only at hSw); go_simp; (try with_reducible rfl))
        (try simp only [Act.put, List.getElem_toArray, List.getElem_cons_succ, List.getElem_cons_zero, List.setIfInBounds_toArray, List.set_cons_zero, List.set_cons_succ])
        have BA := Lib.hid ((Below.refl w4.heap.size w4).drew.alloc (by simp) (.cells #[.int .i64 (coV C y)] 3))
        refine wpAnyH_ready (rs := [9]) (by kernel_rfl) (by simp) (AllReadyH.cons rfl (fun K hK => ?_) AllReadyH.nil)
        go_simp
        refine hK.out _ _ ?_ (fun hHeld => ?_)
        · ((try dsimp only); exact ⟨(BA.out.cell (World.block_lt_of_cell? _ _ c0)).trans c0, (BA.out.cell (World.block_lt_of_cell? _ _ hb4)).trans hb4⟩)
        clear hK K
        (try simp only [Act.put, List.getElem_toArray, List.getElem_cons_succ, List.getElem_cons_zero, List.setIfInBounds_toArray, List.set_cons_zero, List.set_cons_succ])
        refine wpAnyH_ready (rs := [10]) (by kernel_rfl) (by simp) (AllReadyH.cons rfl (fun K hK => ?_) AllReadyH.nil)
        (refine step_append_lies _ (by rfl) _ _ _ (by rfl) (w.heap.size + 1) 3 i0 (.int .i64 0) 1 8 Try.underlying22 HI.out.1 HI.out.2.1 HI.out.2.2.1 HI.out.2.2.2 rfl (by decide) _ _ _ (by rfl) (World.ownsRow.alloc (w := w4.drew) hor _) ⟨w4.heap.size, 0, none⟩ 1 1 [.int .i64 (coV C y)] (by rfl) (by rfl) (cell_one_new _ _ _) (one_i64 _) (by omega) (by unfold maxLen; omega) (by omega) (by simp; have := HBS.out; omega) (w4.heap.size + 1) (by simp) ?_; intro gg gcap w5 hown5 hgrow5 hat hltg; have HB5 := Lib.hid ((HB.out.drew.alloc HB.out.drew.size (.cells #[.int .i64 (coV C y)] 3)).grown hgrow5 (by simp; have := HB.out.size; omega) (fun g hg => by have := (hor.lt g hg).1; omega)); have HO5 := Lib.hid (OwnI.snoc hown5); have HAP5 : Hid (∀ g, (Value.slice (some ⟨gg, 0, none⟩) (q.length + 1) gcap).ownBlock = some g → (Value.slice (some b) A.length ca).ownBlock ≠ some g) := Lib.hid (by intro g hg e; simp only [Value.ownBlock, Option.some.injEq] at hg; subst hg; rcases hat with h | h; exact HAP.out _ h e; have := (HAA.out.lt _ e).2; omega); have HA6 := HAA.out.kept ((Below.refl w4.heap.size w4).drew.alloc (by simp) (.cells #[.int .i64 (coV C y)] 3)) (fun k hk => (HAA.out.lt k hk).2); have HA5 := Lib.hid (HA6.keptBy hgrow5 (fun g hg => HAP.out g hg)); have HS5 : Hid (w.heap.size + 1 ≤ w5.heap.size) := Lib.hid (by have := hgrow5.size; simp at this; have := HBS.out; omega); have HX5 := Lib.hid (And.intro ((kept_cell hgrow5 (fun g hg => (hor.lt g hg).1) (World.block_lt_of_cell? _ _ hHeld.1) (Nat.le_refl _)).trans hHeld.1) ((HRA.out _ HA5.out))))
        (try (go_wp2_with fail))
        refine hK.out _ _ ?_ (fun hHeld => ?_)
        · ((try dsimp only); exact ⟨HX5.out.1, HX5.out.2⟩)
        clear hK K
        (try simp only [Act.put, List.getElem_toArray, List.getElem_cons_succ, List.getElem_cons_zero, List.setIfInBounds_toArray, List.set_cons_zero, List.set_cons_succ])
        refine wpAnyH_take (i := 11) (v := ?_) rfl (by kernel_rfl) (by kernel_rfl) (by kernel_rfl) (fun _ _ _ h => h) (Or.inl ⟨by rfl, ?_⟩) (by assumption) ?_
        rotate_left
        · (intro w hSw; (try dsimp only at hSw); go_simp; (try with_reducible rfl))
        (try simp only [Act.put, List.getElem_toArray, List.getElem_cons_succ, List.getElem_cons_zero, List.setIfInBounds_toArray, List.set_cons_zero, List.set_cons_succ])
        refine wpAnyH_done (by kernel_rfl) ?_ _
        refine NoPanic.normal ?_
        clear hHeld hor c0 hb4 HA6 hgrow5 hown5 hat hltg
        go_wp2_with fail
        go_roundw
        case rel => exact ⟨i + 1, _, by omega, by go_num, Lib.hid HX.out.symm, HO5, HA5, HAP5, Lib.hid HX5.out.1, Lib.hid ⟨HB5.out, HS5.out⟩⟩
        case measure => simp [intOf]; omega
      · obtain rfl : i = A.length := by omega
        have hq2 : q = A.map (coV C) := by rw [hq.out, List.take_length]
        have HE2 : Hid (ktL (C : Int) ll m = trL q (C : Int)) := Lib.hid (by rw [HE.out, ← hq2])
        clear hq2 hq
        go_wp2_with fail
        refine (HTR.out _ q _ HO.out.read (by omega)).mono ?_
        rintro e w5 ⟨v5, rfl, o5, b5⟩
        have hb5 := HB.out.trans (b5.mono HB.out.size)
        have o6 := o5.base HB.out.size
        clear o5 b5
        go_wp2_with fail
        go_ret
        exact ⟨_, rfl, by rw [HE2.out]; exact o6, hb5⟩
end
end Go.Proofs.Ytbbbdabmbiggkaa
