/- Texts of this claim, merged: SidL, SidV, SidF, ImT, ImG. Conditions: as stated. -/
import Derived.Test.YtfndnaldgaaieaaSh26
import Derived.Test.YtfndnaldgaaieaaSh20
import Derived.Deep.RegionLaw
import Derived.Test.YtfndnaldgaaieaaSh5
import Derived.Test.YtfndnaldgaaieaaSh24
import Derived.Test.YtfndnaldgaaieaaSh15
namespace Go.Proofs.Ytfndnaldgaaieaa
open Go.RowKit

/-- The six cells of a row's sides. -/
def sidC (s : List Int) : List Value := [.int .i64 (s.getD 0 0), .int .i64 (s.getD 1 0), .int .i64 (s.getD 2 0), .int .i64 (s.getD 3 0), .int .i64 (s.getD 4 0), .int .i64 (s.getD 5 0)]
theorem sidC_get (s : List Int) {j : Nat} (h : j < 6) : (sidC s)[j]? = some (.int .i64 (s.getD j 0)) := by
  rcases (show j = 0 ∨ j = 1 ∨ j = 2 ∨ j = 3 ∨ j = 4 ∨ j = 5 by omega) with rfl | rfl | rfl | rfl | rfl | rfl <;> rfl
def sidsV : List (List Int) → List Value
  | [] => []
  | s :: t => sidC s ++ sidsV t
theorem sidsV_len : ∀ l : List (List Int), (sidsV l).length = l.length * 6
  | [] => rfl
  | s :: t => by simp only [sidsV, List.length_append, List.length_cons, sidsV_len t]; simp [sidC]; omega
theorem sidsV_get : ∀ (l : List (List Int)) (i : Nat), i < l.length → ∀ j, j < 6 → (sidsV l)[i * 6 + j]? = some (.int .i64 ((l.getD i []).getD j 0))
  | [], i, h, _, _ => absurd h (Nat.not_lt_zero _)
  | s :: t, 0, _, j, hj => by
    have : (sidsV (s :: t))[0 * 6 + j]? = (sidC s)[j]? := by
      rw [Nat.zero_mul, Nat.zero_add]
      show (sidC s ++ sidsV t)[j]? = _
      exact List.getElem?_append_left (by simp [sidC]; omega)
    rw [this]
    exact sidC_get s hj
  | s :: t, i + 1, h, j, hj => by
    have ih := sidsV_get t i (by simpa using h) j hj
    have : (sidsV (s :: t))[(i + 1) * 6 + j]? = (sidsV t)[i * 6 + j]? := by
      show (sidC s ++ sidsV t)[(i + 1) * 6 + j]? = _
      rw [List.getElem?_append_right (by simp [sidC]; omega)]
      congr 1
      simp [sidC]; omega
    rw [this, ih]; rfl
theorem sidsV_app (s : List Int) : ∀ l : List (List Int), sidsV (l ++ [s]) = sidsV l ++ sidC s
  | [] => by simp [sidsV]
  | t :: l => by simp only [List.cons_append, sidsV, sidsV_app s l, List.append_assoc]
/-- A slice of sides that the call owns. -/
def OwnSd (w : World) (B : Nat) (v : Value) (l : List (List Int)) : Prop := w.ownsRow B 51 6 v l.length (sidsV l)
/-- A slice of sides that can be read. -/
def ReadSd (w : World) (v : Value) (l : List (List Int)) : Prop :=
  ∃ (a : Option Addr) (cap : Nat), v = .slice a l.length cap ∧ ∀ i, i < l.length → ∃ b o, a = some ⟨b, o, none⟩ ∧ ∀ j, j < 6 → w.cell? ⟨b, o + i * 6 + j, none⟩ = some (.int .i64 ((l.getD i []).getD j 0))
theorem infoSd : (Try.prog.info? 51).map (fun i => (i.zero, i.size, i.bytes)) = some (some (.agg #[.int .i64 0, .int .i64 0, .int .i64 0, .int .i64 0, .int .i64 0, .int .i64 0]), 6, 48) := by kernel_rfl
theorem OwnSd.read {w : World} {B : Nat} {v : Value} {l : List (List Int)} (h : OwnSd w B v l) : ReadSd w v l := by
  rcases h.2 with ⟨rfl, h0⟩ | ⟨g, cap, cur, rfl, hB, hgg, rest⟩
  · exact ⟨none, 0, by rw [h0], fun i hi => by omega⟩
  · refine ⟨_, cap, rfl, fun i hi => ⟨g, 0, rfl, fun j hj => ?_⟩⟩
    rw [Nat.zero_add, World.ownsRow.cellAt h (i * 6 + j) (by omega), sidsV_get l i hi j hj]
theorem ReadSd.kept {w w' : World} {v : Value} {l : List (List Int)} (h : ReadSd w v l) (hb : Below w.heap.size w w') : ReadSd w' v l := by
  obtain ⟨a, cap, hv, hc⟩ := h
  refine ⟨a, cap, hv, fun i hi => ?_⟩
  obtain ⟨b, o, ha, h0⟩ := hc i hi
  exact ⟨b, o, ha, fun j hj => (hb.cell (World.block_lt_of_cell? w _ (h0 j hj))).trans (h0 j hj)⟩
theorem OwnSd.lt {w : World} {B : Nat} {v : Value} {l : List (List Int)} (h : OwnSd w B v l) : ∀ k, v.ownBlock = some k → B ≤ k ∧ k < w.heap.size := World.ownsRow.lt h
theorem OwnSd.below {w w' : World} {B C : Nat} {v : Value} {l : List (List Int)} (h : OwnSd w B v l) (hb : Below C w w') (hC : ∀ k, v.ownBlock = some k → k < C) : OwnSd w' B v l := by
  refine ⟨h.1, ?_⟩
  rcases h.2 with hn | ⟨g, cap, cur, rfl, hB, hgg, rest⟩
  · exact .inl hn
  · exact .inr ⟨g, cap, cur, rfl, hB, (hb.block g (hC g rfl)).trans hgg, rest⟩
theorem OwnSd.nil (w : World) (B : Nat) : OwnSd w B (.slice none 0 0) [] := World.ownsRow_nil _ _ _ _
theorem OwnSd.made {w : World} {B : Nat} {v : Value} (h : w.ownsRow B 51 6 v 0 []) : OwnSd w B v [] := h
theorem OwnSd.snoc {w : World} {B : Nat} {v : Value} {l : List (List Int)} {s : List Int} (h : w.ownsRow B 51 6 v (l.length + 1) (sidsV l ++ sidC s)) : OwnSd w B v (l ++ [s]) := by
  unfold OwnSd
  rw [List.length_append, List.length_singleton, sidsV_app]; exact h
/-- Six cells in a block of their own. -/
def Box6 (w : World) (b : Nat) (a0 a1 a2 a3 a4 a5 : Int) : Prop :=
  w.cell? ⟨b, 0, none⟩ = some (.int .i64 a0) ∧ w.cell? ⟨b, 1, none⟩ = some (.int .i64 a1) ∧ w.cell? ⟨b, 2, none⟩ = some (.int .i64 a2) ∧ w.cell? ⟨b, 3, none⟩ = some (.int .i64 a3) ∧ w.cell? ⟨b, 4, none⟩ = some (.int .i64 a4) ∧ w.cell? ⟨b, 5, none⟩ = some (.int .i64 a5)
theorem Box6.new (w : World) (T : TypeId) (a0 a1 a2 a3 a4 a5 : Int) : Box6 (w.alloc (.cells #[.int .i64 a0, .int .i64 a1, .int .i64 a2, .int .i64 a3, .int .i64 a4, .int .i64 a5] T)) w.heap.size a0 a1 a2 a3 a4 a5 := by
  have h := World.cell?_alloc_mark w #[.int .i64 a0, .int .i64 a1, .int .i64 a2, .int .i64 a3, .int .i64 a4, .int .i64 a5] T (0, 0)
  exact ⟨(h 0).trans rfl, (h 1).trans rfl, (h 2).trans rfl, (h 3).trans rfl, (h 4).trans rfl, (h 5).trans rfl⟩
theorem Box6.kept {w w' : World} {b C : Nat} {a0 a1 a2 a3 a4 a5 : Int} (h : Box6 w b a0 a1 a2 a3 a4 a5) (hb : Below C w w') (hC : b < C) : Box6 w' b a0 a1 a2 a3 a4 a5 :=
  ⟨(hb.cell hC).trans h.1, (hb.cell hC).trans h.2.1, (hb.cell hC).trans h.2.2.1, (hb.cell hC).trans h.2.2.2.1, (hb.cell hC).trans h.2.2.2.2.1, (hb.cell hC).trans h.2.2.2.2.2⟩
end Go.Proofs.Ytfndnaldgaaieaa
namespace Go.Proofs.Ytfndnaldgaaieaa
open Go.RowKit

theorem equal_rec {a b : List Int} (ha : R5 a) (hb : R5 b) (w : World) : (Op.equalIn 10000 49 (recV a) (recV b)).run Try.prog w = .ok (decide (a = b)) w := by
  obtain ⟨r, h1, h2⟩ := run_equal_deep w (m := 2) (by omega) (k := 49) (arrR.at 0) (by simp only [arrR.hu]) (keyOf_klR ha) (keyOf_klR hb)
  have hr : r = decide (a = b) := by
    rw [Bool.eq_iff_iff, h2, decide_eq_true_iff]
    exact ⟨klR_inj ha hb, fun e => by rw [e]⟩
  rw [← hr]; exact h1
theorem equal_sid {a b : List Int} (ha : S6 a) (hb : S6 b) (w : World) : (Op.equalIn 10000 51 (sidV a) (sidV b)).run Try.prog w = .ok (decide (a = b)) w := by
  obtain ⟨r, h1, h2⟩ := run_equal_deep w (m := 3) (by omega) (k := 51) (by kernel_rfl) (by simp only [Try.underlying51]) (keyOf_klS ha) (keyOf_klS hb)
  have hr : r = decide (a = b) := by
    rw [Bool.eq_iff_iff, h2, decide_eq_true_iff]
    exact ⟨klS_inj ha hb, fun e => by rw [e]⟩
  rw [← hr]; exact h1
theorem take5_get (a : List Int) {j : Nat} (h : j < 5) : (a.take 5).getD j 0 = a.getD j 0 := by
  rw [List.getD_eq_getElem?_getD, List.getD_eq_getElem?_getD, List.getElem?_take, if_pos h]
theorem s6_r5 {a : List Int} (h : S6 a) : R5 (a.take 5) := ⟨by rw [List.length_take, h.1]; rfl, fun j hj => by rw [take5_get a hj]; exact h.2 j (by omega)⟩
theorem take5_rec (a : List Int) : recV (a.take 5) = .agg #[.int .i64 (a.getD 0 0), .int .i64 (a.getD 1 0), .int .i64 (a.getD 2 0), .int .i64 (a.getD 3 0), .int .i64 (a.getD 4 0)] := by
  unfold recV
  rw [take5_get a (by omega), take5_get a (by omega), take5_get a (by omega), take5_get a (by omega), take5_get a (by omega)]
set_option maxRecDepth 20000 in
set_option maxHeartbeats 800000 in
theorem violate_any (a b : List Int) (w : World) (ha : S6 a) (hb : S6 b) :
    Calls Try.prog 49 #[sidV a, sidV b] w fun e w' => e = .returned (.bool (decide (a.take 5 = b.take 5) && !decide (a = b))) ∧ Below w.heap.size w w' := by
  have hR := equal_rec (s6_r5 ha) (s6_r5 hb)
  have hS := equal_sid ha hb
  rw [take5_rec, take5_rec] at hR
  unfold sidV at hS ⊢
  generalize a.getD 0 0 = a0, a.getD 1 0 = a1, a.getD 2 0 = a2, a.getD 3 0 = a3, a.getD 4 0 = a4, a.getD 5 0 = a5 at *
  generalize b.getD 0 0 = b0, b.getD 1 0 = b1, b.getD 2 0 = b2, b.getD 3 0 = b3, b.getD 4 0 = b4, b.getD 5 0 = b5 at *
  have hx := Box6.new w 51 a0 a1 a2 a3 a4 a5
  have hs : (w.alloc (.cells #[.int .i64 a0, .int .i64 a1, .int .i64 a2, .int .i64 a3, .int .i64 a4, .int .i64 a5] 51)).heap.size = w.heap.size + 1 := by simp
  have hy := Box6.new (w.alloc (.cells #[.int .i64 a0, .int .i64 a1, .int .i64 a2, .int .i64 a3, .int .i64 a4, .int .i64 a5] 51)) 51 b0 b1 b2 b3 b4 b5
  rw [hs] at hy
  replace hx := hx.kept ((Below.refl _ _).alloc (Nat.le_refl _) (.cells #[.int .i64 b0, .int .i64 b1, .int .i64 b2, .int .i64 b3, .int .i64 b4, .int .i64 b5] 51)) (by simp)
  obtain ⟨x0, x1, x2, x3, x4, x5⟩ := hx
  obtain ⟨y0, y1, y2, y3, y4, y5⟩ := hy
  have hbw := ((Below.refl w.heap.size w).alloc (Nat.le_refl _) (.cells #[.int .i64 a0, .int .i64 a1, .int .i64 a2, .int .i64 a3, .int .i64 a4, .int .i64 a5] 51)).alloc (by simp) (.cells #[.int .i64 b0, .int .i64 b1, .int .i64 b2, .int .i64 b3, .int .i64 b4, .int .i64 b5] 51)
  clear ha hb hs
  obtain ⟨p, hp⟩ : ∃ p, p = decide (a.take 5 = b.take 5) := ⟨_, rfl⟩
  obtain ⟨q, hq⟩ : ∃ q, q = decide (a = b) := ⟨_, rfl⟩
  rw [← hp] at hR ⊢
  rw [← hq] at hS ⊢
  clear hp hq
  cases p with
  | false =>
    go_enter Try.func49, Try.ntmps49
    go_wp2_with fail
    go_ret
    exact ⟨rfl, hbw⟩
  | true =>
    go_enter Try.func49, Try.ntmps49
    go_wp2_with fail
    go_ret
    exact ⟨ret_b (by cases q <;> rfl), hbw⟩
end Go.Proofs.Ytfndnaldgaaieaa
namespace Go.Proofs.Ytfndnaldgaaieaa
open Go.RowKit

/-- Two rows' sides violate. -/
def vioB (l : List (List Int)) (i k : Nat) : Bool := decide ((l.getD i []).take 5 = (l.getD k []).take 5) && !decide (l.getD i [] = l.getD k [])
theorem cell_on6 {w w' : World} {p : Addr} {v : Value} (h : w.cell? p = some v) (b : Below w.heap.size w w') : w'.cell? p = some v := (b.cell (World.block_lt_of_cell? w _ h)).trans h
def CutSd (w : World) (b : Nat) (o i : Nat) (s0 s1 s2 s3 s4 s5 : Int) : Prop :=
  w.cell? ⟨b, o + i * 6, none⟩ = some (.int .i64 s0) ∧ w.cell? ⟨b, o + i * 6 + 1, none⟩ = some (.int .i64 s1) ∧ w.cell? ⟨b, o + i * 6 + 2, none⟩ = some (.int .i64 s2) ∧ w.cell? ⟨b, o + i * 6 + 3, none⟩ = some (.int .i64 s3) ∧ w.cell? ⟨b, o + i * 6 + 4, none⟩ = some (.int .i64 s4) ∧ w.cell? ⟨b, o + i * 6 + 5, none⟩ = some (.int .i64 s5)
theorem ReadSd.at {w : World} {a : Option Addr} {n cap : Nat} {l : List (List Int)} (h : ReadSd w (.slice a n cap) l) {i : Nat} (hi : i < l.length) (h6 : S6 (l.getD i [])) : ∃ b o s0 s1 s2 s3 s4 s5, a = some ⟨b, o, none⟩ ∧ l.getD i [] = [s0, s1, s2, s3, s4, s5] ∧ CutSd w b o i s0 s1 s2 s3 s4 s5 := by
  obtain ⟨a', cap', hv, hc⟩ := h
  cases hv
  obtain ⟨b, o, ha, h0⟩ := hc i hi
  exact ⟨b, o, _, _, _, _, _, _, ha, s6_list h6, h0 0 (by omega), h0 1 (by omega), h0 2 (by omega), h0 3 (by omega), h0 4 (by omega), h0 5 (by omega)⟩
theorem CutSd.on {w w' : World} {b o i : Nat} {s0 s1 s2 s3 s4 s5 : Int} (h : CutSd w b o i s0 s1 s2 s3 s4 s5) (hb : Below w.heap.size w w') : CutSd w' b o i s0 s1 s2 s3 s4 s5 :=
  ⟨cell_on6 h.1 hb, cell_on6 h.2.1 hb, cell_on6 h.2.2.1 hb, cell_on6 h.2.2.2.1 hb, cell_on6 h.2.2.2.2.1 hb, cell_on6 h.2.2.2.2.2 hb⟩
theorem sidV_six (s0 s1 s2 s3 s4 s5 : Int) : sidV [s0, s1, s2, s3, s4, s5] = .agg #[.int .i64 s0, .int .i64 s1, .int .i64 s2, .int .i64 s3, .int .i64 s4, .int .i64 s5] := rfl
set_option maxRecDepth 20000 in
set_option maxHeartbeats 1600000 in
theorem firstViolation_any (v : Value) (l : List (List Int)) (w : World) (hr : ReadSd w v l) (hS : ∀ i, i < l.length → S6 (l.getD i [])) (hl : l.length ≤ 1048576) :
    Calls Try.prog 21 #[v] w fun e w' => e = .returned (.tuple #[.int .i64 (pairI (vioB l) l.length).1, .int .i64 (pairI (vioB l) l.length).2, .bool (decide (0 ≤ (pairI (vioB l) l.length).1))]) ∧ Below w.heap.size w w' := by
  have HR := Lib.hid hr
  obtain ⟨a, cap, rfl, -⟩ := hr
  have HEQ := Lib.hid (fun a b (h : PairIs (vioB l) l.length a b) => pairI_eq h)
  have HSS := Lib.hid hS
  clear hS
  go_enter Try.func21, Try.ntmps21
  go_wp2_with fail
  go_loopw [10] (fun iv wr => ∃ i : Nat, i ≤ l.length ∧ iv = .int .i64 (i : Int) ∧ Hid (∀ i' k', i' < i → i' < k' → k' < l.length → vioB l i' k' = false) ∧ Below w.heap.size w wr) (fun iv _ => l.length - (intOf iv).toNat)
  case atStart => exact ⟨0, by omega, rfl, Lib.hid (fun i' k' h => absurd h (Nat.not_lt_zero _)), Below.refl _ _⟩
  case round =>
    obtain ⟨i, hi, rfl, HNO, hb⟩ := hrel
    obtain ⟨w1, hw1⟩ : ∃ w', w' = wr := ⟨_, rfl⟩
    rw [← hw1] at hb ⊢
    clear hw1
    by_cases hlt : i < l.length
    · have z0 : (0 : Int) ≤ (i : Int) := by omega
      have z1 : (i : Int) < (l.length : Int) := by omega
      obtain ⟨b, o, s0, s1, s2, s3, s4, s5, rfl, hs, hc⟩ := ReadSd.at (HR.out.kept hb) hlt (HSS.out i hlt)
      have HSI := Lib.hid hs
      obtain ⟨c0, c1, c2, c3, c4, c5⟩ := hc
      have hw2 := (Below.refl w1.heap.size w1).alloc (Nat.le_refl _) (.cells #[.int .i64 s0, .int .i64 s1, .int .i64 s2, .int .i64 s3, .int .i64 s4, .int .i64 s5] 51)
      have hbx := Box6.new w1 51 s0 s1 s2 s3 s4 s5
      have hws := hb.size
      have hbb := hb.trans (hw2.mono hb.size)
      have hlt1 : w1.heap.size < (w1.alloc (.cells #[.int .i64 s0, .int .i64 s1, .int .i64 s2, .int .i64 s3, .int .i64 s4, .int .i64 s5] 51)).heap.size := by simp
      have z3 : IntKind.i64.wrap ((i : Int) + 1) = (i : Int) + 1 := IntWalk.i64_in _ (by omega)
      clear hs hw2 hb
      go_wp2_with fail
      clear c0 c1 c2 c3 c4 c5
      go_loopw [7] (fun kv wr => ∃ k : Nat, i < k ∧ k ≤ l.length ∧ kv = .int .i64 (k : Int) ∧ Hid (∀ k', i < k' → k' < k → vioB l i k' = false) ∧ Box6 wr w1.heap.size s0 s1 s2 s3 s4 s5 ∧ w1.heap.size < wr.heap.size ∧ Below w.heap.size w wr) (fun kv _ => l.length - (intOf kv).toNat)
      case atStart => exact ⟨i + 1, by omega, by omega, by go_num, Lib.hid (fun k' h1 h2 => by omega), hbx, hlt1, hbb⟩
      case round =>
        clear hbx hlt1 hbb
        obtain ⟨k, hik, hk, rfl, HNK, hbx, hlw, hb⟩ := hrel
        obtain ⟨w2, hw2⟩ : ∃ w', w' = wr := ⟨_, rfl⟩
        rw [← hw2] at hbx hlw hb ⊢
        clear hw2
        by_cases hlk : k < l.length
        · have z4 : (0 : Int) ≤ (k : Int) := by omega
          have z5 : (k : Int) < (l.length : Int) := by omega
          obtain ⟨b', o', t0, t1, t2, t3, t4, t5, hbo, ht, hc⟩ := ReadSd.at (HR.out.kept hb) hlk (HSS.out k hlk)
          cases hbo
          obtain ⟨c0, c1, c2, c3, c4, c5⟩ := hc
          have HV := Lib.hid (fun w' => violate_any (l.getD i []) (l.getD k []) w' (HSS.out i hlt) (HSS.out k hlk))
          have HVB : Hid (vioB l i k = (decide ((l.getD i []).take 5 = (l.getD k []).take 5) && !decide (l.getD i [] = l.getD k []))) := Lib.hid rfl
          obtain ⟨q, hq⟩ : ∃ q, q = vioB l i k := ⟨_, rfl⟩
          rw [← HVB.out, ← hq, HSI.out, ht, sidV_six, sidV_six] at HV
          have HQ := Lib.hid hq
          have HB := Lib.hid hb
          have HBX := Lib.hid hbx
          obtain ⟨d0, d1, d2, d3, d4, d5⟩ := hbx
          clear hq ht hb HVB
          cases q with
          | false =>
            go_wp2_with fail
            go_region_law (go_simp; go_at_call 49; refine (HV.out w2.drew).mono ?_; rintro e w3 ⟨rfl, b3⟩)
            all_goals
              replace b3 : Below w2.heap.size w2 w3 := (Below.refl w2.heap.size w2).drew.trans b3
              have hb3 := HB.out.trans (b3.mono HB.out.size)
              have hbx3 := HBX.out.kept b3 hlw
              have hs3 := b3.size
              clear b3 c0 c1 c2 c3 c4 c5 d0 d1 d2 d3 d4 d5
              go_wp2_with fail
              go_roundw
              case rel => exact ⟨k + 1, by omega, by omega, by go_num, Lib.hid (fun k' g1 g2 => by
                by_cases e : k' = k
                · rw [e]; exact HQ.out.symm
                · exact HNK.out k' g1 (by omega)), hbx3, by omega, hb3⟩
              case measure => simp [intOf]; omega
          | true =>
            have HP := Lib.hid (HEQ.out (i : Int) (k : Int) (.inr ⟨i, k, rfl, rfl, hik, hlk, HQ.out.symm, HNO.out, HNK.out⟩))
            go_wp2_with fail
            go_region_law (go_simp; go_at_call 49; refine (HV.out w2.drew).mono ?_; rintro e w3 ⟨rfl, b3⟩)
            all_goals
              replace b3 : Below w2.heap.size w2 w3 := (Below.refl w2.heap.size w2).drew.trans b3
              have hb3 := HB.out.trans (b3.mono HB.out.size)
              clear b3 c0 c1 c2 c3 c4 c5 d0 d1 d2 d3 d4 d5
              go_wp2_with fail
              go_ret3
              exact ⟨by rw [HP.out]; simp only [decide_eq_true (show (0 : Int) ≤ (i : Int) by omega)]; rfl, hb3⟩
        · obtain rfl : k = l.length := by omega
          go_wp2_with fail
          go_roundw
          case rel => exact ⟨i + 1, by omega, by go_num, Lib.hid (fun i' k' g1 g2 g3 => by
            by_cases e : i' = i
            · rw [e] at g2 ⊢; exact HNK.out k' g2 g3
            · exact HNO.out i' k' (by omega) g2 g3), hb⟩
          case measure => simp [intOf]; omega
    · obtain rfl : i = l.length := by omega
      have HP := Lib.hid (HEQ.out (-1) (-1) (.inl ⟨rfl, rfl, fun i k g1 g2 => HNO.out i k (by omega) g1 g2⟩))
      go_wp2_with fail
      go_ret3
      exact ⟨by rw [HP.out]; rfl, hb⟩
end Go.Proofs.Ytfndnaldgaaieaa
namespace Go.Proofs.Ytfndnaldgaaieaa
open Go.RowKit

theorem implValue_any (x : Int) (w : World) :
    Calls Try.prog 80 #[.int .i64 x] w fun e w' => e = .returned (.bool (decide (0 ≤ x ∧ x ≤ 40))) ∧ w = w' := by
  by_cases h1 : 0 ≤ x <;> by_cases h2 : x ≤ 40
  all_goals
    go_enter Try.func80, Try.ntmps80
    go_wp2
    go_ret
    exact ⟨by simp [h1, h2], rfl⟩
theorem implCell_any (x : Int) (w : World) :
    Calls Try.prog 75 #[.int .i64 x] w fun e w' => e = .returned (.bool (cellOk x)) ∧ w = w' := by
  by_cases h1 : 0 ≤ x ∧ x ≤ 40
  · have HV := Lib.hid (implValue_any x w)
    rw [decide_eq_true h1] at HV
    go_enter Try.func75, Try.ntmps75
    go_wp2_with fail
    refine HV.out.mono ?_
    rintro e w' ⟨rfl, rfl⟩
    go_wp2_with fail
    go_ret
    exact ⟨ret_b (by unfold cellOk; simp; omega), rfl⟩
  · have HV := Lib.hid (implValue_any x w)
    rw [decide_eq_false h1] at HV
    have HN := Lib.hid h1
    clear h1
    by_cases h2 : x = -1
    · subst h2
      go_enter Try.func75, Try.ntmps75
      go_wp2_with fail
      refine HV.out.mono ?_
      rintro e w' ⟨rfl, rfl⟩
      go_wp2_with fail
      go_ret
      exact ⟨rfl, rfl⟩
    · have hx : (x == -1) = false := by simpa using h2
      have HN2 := Lib.hid h2
      clear h2
      go_enter Try.func75, Try.ntmps75
      go_wp2_with fail
      refine HV.out.mono ?_
      rintro e w' ⟨rfl, rfl⟩
      go_wp2_with fail
      go_ret
      exact ⟨ret_b (by unfold cellOk; have := HN.out; have := HN2.out; simp; omega), rfl⟩
set_option maxHeartbeats 800000 in
theorem implRow_any (v : Value) (r : List Int) (c : Int) (w : World) (hr : ReadI w v r) (hl : r.length ≤ 1048576) :
    Calls Try.prog 70 #[v, .int .i64 c] w fun e w' => e = .returned (.bool (rowOk c r)) ∧ w = w' := by
  obtain ⟨a, cap, rfl, ha⟩ := hr
  have HA := Lib.hid ha
  clear ha
  by_cases hc : (r.length : Int) = c
  · have hd : ((r.length : Int) != c) = false := by simp [hc]
    have HC := Lib.hid hc
    clear hc
    go_enter Try.func70, Try.ntmps70
    go_wp2_with fail
    go_loop [13] (fun iv => ∃ k : Nat, k ≤ r.length ∧ iv = .int .i64 (k : Int) ∧ Hid ((r.take k).all cellOk = true)) (fun iv => r.length - (intOf iv).toNat)
    case atStart => exact ⟨0, by omega, rfl, Lib.hid rfl⟩
    case round =>
      obtain ⟨k, hk, rfl, hall⟩ := hrel
      by_cases hlt : k < r.length
      · obtain ⟨x, rfl, hx⟩ := HA.out k hlt
        have z0 : (0 : Int) ≤ (k : Int) := by omega
        have z1 : (k : Int) < (r.length : Int) := by omega
        have HI := Lib.hid (implCell_any r[k] w)
        have HOK := Lib.hid (fun h => all_snoc (p := cellOk) hlt hall.out h)
        have HNO := Lib.hid (fun h => all_not (p := cellOk) hlt h)
        obtain ⟨y, hy⟩ : ∃ y : Int, r[k] = y := ⟨_, rfl⟩
        rw [hy] at hx HI HOK HNO
        clear hy
        cases hro : cellOk y with
        | true =>
          rw [hro] at HI
          have HX := Lib.hid (HOK.out hro)
          clear hro
          go_wp2_with fail
          refine HI.out.mono ?_
          rintro e w' ⟨rfl, rfl⟩
          go_wp2_with fail
          go_round
          case rel => exact ⟨k + 1, by omega, by go_num, HX⟩
          case measure => simp [intOf]; omega
        | false =>
          rw [hro] at HI
          have HX := Lib.hid (HNO.out hro)
          clear hro
          go_wp2_with fail
          refine HI.out.mono ?_
          rintro e w' ⟨rfl, rfl⟩
          go_wp2_with fail
          go_ret
          exact ⟨ret_b (by unfold rowOk; rw [HX.out]; rfl), rfl⟩
      · obtain rfl : k = r.length := by omega
        have HX : Hid (r.all cellOk = true) := Lib.hid (by have := hall.out; rwa [List.take_length] at this)
        go_wp2_with fail
        go_ret
        exact ⟨ret_b (by unfold rowOk; rw [HX.out, decide_eq_true HC.out]; rfl), rfl⟩
  · have hd : ((r.length : Int) != c) = true := by simpa using hc
    have HC := Lib.hid hc
    clear hc
    go_enter Try.func70, Try.ntmps70
    go_wp2_with fail
    go_ret
    exact ⟨ret_b (by unfold rowOk; rw [decide_eq_false HC.out]; simp), rfl⟩

set_option maxHeartbeats 1600000 in
theorem implIsTable_any (c : Int) (v : Value) (ll : List (List Int)) (w : World) (hr : ReadSS w v ll) (hl : ll.length ≤ 1048576) (ht : ∀ i, i < ll.length → (ll.getD i []).length ≤ 1048576) :
    Calls Try.prog 45 #[.agg #[.int .i64 c, v]] w fun e w' => e = .returned (.bool (isT c ll)) ∧ Below w.heap.size w w' := by
  obtain ⟨a, cap, rfl, ha⟩ := hr
  have HA := Lib.hid ha
  have HT := Lib.hid ht
  clear ha ht
  have hb1 := (Below.refl w.heap.size w).alloc (Nat.le_refl _) (.cells #[.int .i64 c, .slice a ll.length cap] 26)
  obtain ⟨w1, hw1⟩ : ∃ w1, w1 = w.alloc (.cells #[.int .i64 c, .slice a ll.length cap] 26) := ⟨_, rfl⟩
  have hbx := box2 (w := w) (wr := w1) (c := c) (v := .slice a ll.length cap) (T := 26) (by rw [hw1]; exact Below.refl _ _)
  have hb2 : Below w.heap.size w w1 := by rw [hw1]; exact hb1
  by_cases h1 : 1 ≤ c
  · have g1 : ¬ c < 1 := by omega
    by_cases h5 : c ≤ 5
    · have HCC := Lib.hid (fun w' => colCount_any c w')
      rw [show decide (0 ≤ c ∧ c ≤ 5) = true by simp; omega] at HCC
      by_cases h40 : ll.length ≤ 40
      · have g40 : ¬ (40 : Int) < (ll.length : Int) := by omega
        have HD : Hid ((decide (1 ≤ c ∧ c ≤ 5) && decide (ll.length ≤ 40)) = true) := Lib.hid (by simp; omega)
        clear h5
        go_enter Try.func45, Try.ntmps45
        go_wp2_with fail
        refine (HCC.out _).mono ?_
        rintro e w' ⟨rfl, rfl⟩
        go_wp2_with fail
        rw [← hw1]
        clear hw1 hb1
        go_loop [23] (fun iv => ∃ k : Nat, k ≤ ll.length ∧ iv = .int .i64 (k : Int) ∧ Hid ((ll.take k).all (rowOk c) = true)) (fun iv => ll.length - (intOf iv).toNat)
        case atStart => exact ⟨0, by omega, rfl, Lib.hid rfl⟩
        case round =>
          obtain ⟨k, hk, rfl, hall⟩ := hrel
          by_cases hlt : k < ll.length
          · obtain ⟨x, u, rfl, hx, hu⟩ := HA.out k hlt
            have hy := (hb2.cell (World.block_lt_of_cell? w _ hx)).trans hx
            have z0 : (0 : Int) ≤ (k : Int) := by omega
            have z1 : (k : Int) < (ll.length : Int) := by omega
            have hg : ll[k] = ll.getD k [] := by rw [List.getD_eq_getElem?_getD, List.getElem?_eq_getElem hlt]; rfl
            have HQ := Lib.hid (implRow_any u (ll.getD k []) c w1 (hu.kept hb2) (HT.out k hlt))
            have HOK := Lib.hid (fun h => all_snoc (p := rowOk c) hlt hall.out h)
            have HNO := Lib.hid (fun h => all_not (p := rowOk c) hlt h)
            rw [hg] at HOK HNO
            obtain ⟨r, hrr⟩ : ∃ r, ll.getD k [] = r := ⟨_, rfl⟩
            rw [hrr] at HQ HOK HNO
            clear hx hu hg hrr
            cases hro : rowOk c r with
            | true =>
              rw [hro] at HQ
              have HX := Lib.hid (HOK.out hro)
              clear hro
              go_wp2_with fail
              refine HQ.out.mono ?_
              rintro e w' ⟨rfl, rfl⟩
              go_wp2_with fail
              go_round
              case rel => exact ⟨k + 1, by omega, by go_num, HX⟩
              case measure => simp [intOf]; omega
            | false =>
              rw [hro] at HQ
              have HX := Lib.hid (HNO.out hro)
              clear hro
              go_wp2_with fail
              refine HQ.out.mono ?_
              rintro e w' ⟨rfl, rfl⟩
              go_wp2_with fail
              go_ret
              exact ⟨ret_b (by unfold isT; rw [HX.out]; rfl), hb2⟩
          · obtain rfl : k = ll.length := by omega
            have HX : Hid (ll.all (rowOk c) = true) := Lib.hid (by have := hall.out; rwa [List.take_length] at this)
            go_wp2_with fail
            go_ret
            exact ⟨ret_b (by unfold isT; rw [HX.out, HD.out]; rfl), hb2⟩
      · have g40 : (40 : Int) < (ll.length : Int) := by omega
        have HD : Hid (isT c ll = false) := Lib.hid (by unfold isT; rw [decide_eq_false h40]; simp)
        go_enter Try.func45, Try.ntmps45
        go_wp2_with fail
        refine (HCC.out _).mono ?_
        rintro e w' ⟨rfl, rfl⟩
        go_wp2_with fail
        go_ret
        exact ⟨ret_b HD.out, hb1⟩
    · have HCC := Lib.hid (fun w' => colCount_any c w')
      rw [show decide (0 ≤ c ∧ c ≤ 5) = false by simp; omega] at HCC
      have HD : Hid (isT c ll = false) := Lib.hid (by unfold isT; rw [decide_eq_false (p := 1 ≤ c ∧ c ≤ 5) (by omega)]; simp)
      go_enter Try.func45, Try.ntmps45
      go_wp2_with fail
      refine (HCC.out _).mono ?_
      rintro e w' ⟨rfl, rfl⟩
      go_wp2_with fail
      go_ret
      exact ⟨ret_b HD.out, hb1⟩
  · have g1 : c < 1 := by omega
    have HD : Hid (isT c ll = false) := Lib.hid (by unfold isT; rw [decide_eq_false (p := 1 ≤ c ∧ c ≤ 5) (by omega)]; simp)
    go_enter Try.func45, Try.ntmps45
    go_wp2_with fail
    go_ret
    exact ⟨ret_b HD.out, hb1⟩
end Go.Proofs.Ytfndnaldgaaieaa
namespace Go.Proofs.Ytfndnaldgaaieaa
open Go.RowKit

/-- The function of a mode. -/
def eqFn (m : Int) : Value := if m = 0 then .func (.func 68) #[] #[] else if m = 1 then .func (.func 69) #[] #[] else .nilFunc
theorem eqFn_0 : eqFn 0 = .func (.func 68) #[] #[] := rfl
theorem eqFn_1 : eqFn 1 = .func (.func 69) #[] #[] := rfl
theorem eqFun0_any (a b : Int) (w : World) :
    Calls Try.prog 68 #[.int .i64 a, .int .i64 b] w fun e w' => e = .returned (.bool (eqC 0 a b)) ∧ w = w' := by
  have HE := Lib.hid (show eqC 0 a b = decide (a = b) by unfold eqC; simp)
  go_enter Try.func68, Try.ntmps68
  go_wp2_with fail
  go_ret
  exact ⟨ret_b (by rw [HE.out]; rfl), rfl⟩
theorem eqFun1_any (a b : Int) (w : World) :
    Calls Try.prog 69 #[.int .i64 a, .int .i64 b] w fun e w' => e = .returned (.bool (eqC 1 a b)) ∧ w = w' := by
  by_cases h : a = b
  · subst h
    by_cases ha : a = -1
    · subst ha
      go_enter Try.func69, Try.ntmps69
      go_wp2_with fail
      go_ret
      exact ⟨ret_b (by decide), rfl⟩
    · have e1 : (a != -1) = true := by simpa using ha
      have HE := Lib.hid (show eqC 1 a a = true by unfold eqC; simp [ha])
      clear ha
      go_enter Try.func69, Try.ntmps69
      go_wp2_with fail
      go_ret
      exact ⟨ret_b HE.out, rfl⟩
  · have e0 : (a == b) = false := by simpa using h
    have HE := Lib.hid (show eqC 1 a b = false by unfold eqC; simp [h])
    clear h
    go_enter Try.func69, Try.ntmps69
    go_wp2_with fail
    go_ret
    exact ⟨ret_b HE.out, rfl⟩
theorem eqOf_any (m : Int) (w : World) :
    Calls Try.prog 44 #[.int .i64 m] w fun e w' => e = .returned (.tuple #[eqFn m, .bool (modeOk m)]) ∧ w = w' := by
  by_cases h0 : m = 0
  · subst h0
    go_enter Try.func44, Try.ntmps44
    go_wp2_with fail
    go_ret2
    exact ⟨rfl, rfl⟩
  · by_cases h1 : m = 1
    · subst h1
      go_enter Try.func44, Try.ntmps44
      go_wp2_with fail
      go_ret2
      exact ⟨rfl, rfl⟩
    · have e0 : (m == 0) = false := by simpa using h0
      have e1 : (m == 1) = false := by simpa using h1
      have HF := Lib.hid (show eqFn m = .nilFunc by unfold eqFn; rw [if_neg h0, if_neg h1])
      have HM := Lib.hid (show modeOk m = false by unfold modeOk; rw [decide_eq_false]; omega)
      clear h0 h1
      go_enter Try.func44, Try.ntmps44
      go_wp2_with fail
      go_ret2
      exact ⟨by rw [HF.out, HM.out]; rfl, rfl⟩
end Go.Proofs.Ytfndnaldgaaieaa
