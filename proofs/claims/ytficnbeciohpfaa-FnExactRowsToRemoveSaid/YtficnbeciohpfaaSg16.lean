/- Texts of this claim, merged: CmpI, RecO, SidL, SidV, DepA. Conditions: as stated. -/
import Derived.Test.YtficnbeciohpfaaSg14
import Derived.Test.YtficnbeciohpfaaSg15
import Derived.Test.YtficnbeciohpfaaSg5
import Derived.Deep.RegionHeld3
import Derived.RegionTactic
import Derived.Test.YtficnbeciohpfaaSg4
namespace Go.Proofs.Ytficnbeciohpfaa
open Go.RowKit

def cmpI (x y : Int) : Int := if x < y then -1 else if y < x then 1 else 0
/-- The order of rows as a number. -/
def cmpL : List Int → List Int → Int
  | [], [] => 0
  | [], _ :: _ => -1
  | _ :: _, [] => 1
  | a :: s, b :: t => if cmpI a b = 0 then cmpL s t else cmpI a b
theorem cmpI_zero {x y : Int} : cmpI x y = 0 ↔ x = y := by
  unfold cmpI
  split
  · constructor <;> (intro; omega)
  · split
    · constructor <;> (intro; omega)
    · constructor <;> (intro; omega)
theorem cmpL_less : ∀ (a b : List Int), decide (cmpL a b < 0) = lessR a b
  | [], [] => rfl
  | [], _ :: _ => rfl
  | _ :: _, [] => rfl
  | a :: s, b :: t => by
    unfold cmpL lessR
    by_cases h : a = b
    · rw [if_pos (cmpI_zero.2 h), if_pos h]; exact cmpL_less s t
    · rw [if_neg (fun e => h (cmpI_zero.1 e)), if_neg h]
      unfold cmpI
      by_cases h1 : a < b
      · simp [h1]
      · rw [if_neg h1, if_pos (by omega)]; simp [h1]
theorem cmpL_drop {a b : List Int} {k : Nat} (h1 : k < a.length) (h2 : k < b.length) : cmpL (a.drop k) (b.drop k) = if cmpI a[k] b[k] = 0 then cmpL (a.drop (k + 1)) (b.drop (k + 1)) else cmpI a[k] b[k] := by
  rw [List.drop_eq_getElem_cons h1, List.drop_eq_getElem_cons h2]; rfl

end Go.Proofs.Ytficnbeciohpfaa
namespace Go.Proofs.Ytficnbeciohpfaa
open Go.RowKit

/-- The block b holds the values r, and 0 behind them, in five cells. -/
def RecAt (w : World) (b : Nat) (r : List Int) : Prop := ∀ j, j < 5 → w.cell? ⟨b, j, none⟩ = some (.int .i64 (r.getD j 0)) ∧ w.frozen? ⟨b, j, none⟩ = false
theorem RecAt.kept {w w' : World} {b C : Nat} {r : List Int} (h : RecAt w b r) (hb : Below C w w') (hC : b < C) : RecAt w' b r := fun j hj => ⟨(hb.cell hC).trans (h j hj).1, (hb.frozen hC).trans (h j hj).2⟩
theorem getD_end (l : List Int) (j : Nat) (h : l.length ≤ j) : l.getD j 0 = 0 := by rw [List.getD_eq_getElem?_getD, List.getElem?_eq_none h]; rfl
theorem getD_app (l : List Int) (x : Int) (j : Nat) : (l ++ [x]).getD j 0 = if j = l.length then x else l.getD j 0 := by
  by_cases h : j < l.length + 1
  · rw [getD_snoc _ _ _ _ h]
    by_cases h2 : j = l.length
    · simp [h2]
    · rw [if_pos (by omega), if_neg h2]
  · rw [if_neg (by omega), getD_end l j (by omega), getD_end (l ++ [x]) j (by rw [List.length_append, List.length_singleton]; omega)]
theorem RecAt.store {w : World} {b : Nat} {l : List Int} (h : RecAt w b l) (x : Int) (h5 : l.length < 5) : RecAt (w.setCell ⟨b, l.length, none⟩ (.int .i64 x)) b (l ++ [x]) := by
  intro j hj
  rw [getD_app, World.frozen?_setCell]
  refine ⟨?_, (h j hj).2⟩
  by_cases hjl : j = l.length
  · subst hjl
    rw [if_pos rfl]
    exact World.cell?_setCell_same _ _ _ (h _ h5).1
  · rw [if_neg hjl]
    exact (World.cell?_setCell_other _ _ _ _ (by intro e; simp only [Addr.mk.injEq] at e; omega)).trans (h j hj).1
theorem RecAt.drewN {w : World} {b : Nat} {l : List Int} (h : RecAt w b l) (n : Nat) : RecAt (w.drewN n) b l := fun j hj => h j hj
theorem RecAt.fresh (w : World) : RecAt (w.alloc (.cells #[.int .i64 0, .int .i64 0, .int .i64 0, .int .i64 0, .int .i64 0] 70)) w.heap.size [] := by
  intro j hj
  rw [show ([] : List Int).getD j 0 = 0 by simp]
  refine ⟨?_, ?_⟩
  · rw [World.cell?_alloc_mark w #[.int .i64 0, .int .i64 0, .int .i64 0, .int .i64 0, .int .i64 0] 70 (0, 0) j]
    rcases (show j = 0 ∨ j = 1 ∨ j = 2 ∨ j = 3 ∨ j = 4 by omega) with rfl | rfl | rfl | rfl | rfl <;> rfl
  · exact World.frozen?_alloc_new _ _ _ _
set_option maxHeartbeats 1600000 in
theorem recordOf_any (v vc : Value) (r cs : List Int) (w : World) (hr : ReadI w v r) (hc : ReadI w vc cs) (h5 : cs.length ≤ 5) (hin : ∀ x ∈ cs, 0 ≤ x ∧ x < (r.length : Int)) :
    Calls Try.prog 66 #[v, vc] w fun e w' => ∃ b, e = .returned (.pointer (some ⟨b, 0, none⟩)) ∧ RecAt w' b (cs.map fun k => r.getD k.toNat 0) ∧ w.heap.size ≤ b ∧ b < w'.heap.size ∧ Below w.heap.size w w' := by
  obtain ⟨a, cap, rfl, ha⟩ := hr
  obtain ⟨a', cap', rfl, ha'⟩ := hc
  have HA := Lib.hid ha
  have HA' := Lib.hid ha'
  have HIN := Lib.hid hin
  clear ha ha' hin
  have hb1 := (Below.refl w.heap.size w).alloc (Nat.le_refl _) (.cells #[.int .i64 0, .int .i64 0, .int .i64 0, .int .i64 0, .int .i64 0] 70)
  have hrec := RecAt.fresh w
  have hsz : w.heap.size < (w.alloc (.cells #[.int .i64 0, .int .i64 0, .int .i64 0, .int .i64 0, .int .i64 0] 70)).heap.size := by simp
  go_enter Try.func66, Try.ntmps66
  go_wp2_with fail
  go_loopw [11] (fun iv wr => ∃ (k : Nat) (l : List Int), k ≤ cs.length ∧ iv = .int .i64 (k : Int) ∧ Hid (l = (cs.take k).map fun k => r.getD k.toNat 0) ∧ RecAt wr w.heap.size l ∧ w.heap.size < wr.heap.size ∧ Below w.heap.size w wr) (fun iv _ => cs.length - (intOf iv).toNat)
  case atStart => exact ⟨0, [], by omega, rfl, Lib.hid rfl, hrec, hsz, hb1⟩
  case round =>
    clear hrec hsz hb1
    obtain ⟨k, l, hk, rfl, hL, hrec, hsz, hb⟩ := hrel
    have hll : l.length = k := by rw [hL.out, List.length_map, List.length_take]; omega
    by_cases hlt : k < cs.length
    · obtain ⟨x', rfl, hx'⟩ := HA'.out k hlt
      have hin := HIN.out cs[k] (List.getElem_mem _)
      obtain ⟨q, hq⟩ : ∃ q : Nat, cs[k] = (q : Int) := ⟨cs[k].toNat, by omega⟩
      rw [hq] at hin hx'
      obtain ⟨x, rfl, hx⟩ := HA.out q (by omega)
      have hgd := get_getD r q (by omega)
      rw [hgd] at hx
      have hy := (hb.cell (World.block_lt_of_cell? w _ hx)).trans hx
      have hy' := (hb.cell (World.block_lt_of_cell? w _ hx')).trans hx'
      have HS := Lib.hid (map_take_succ cs (fun k => r.getD k.toNat 0) 0 k hlt)
      have hgc := get_getD cs k hlt
      rw [← hgc, hq, show ((q : Nat) : Int).toNat = q from rfl] at HS
      obtain ⟨y, hyy⟩ : ∃ y, r.getD q 0 = y := ⟨_, rfl⟩
      rw [hyy] at hy HS
      have z0 : (0 : Int) ≤ (k : Int) := by omega
      have z1 : (k : Int) < (cs.length : Int) := by omega
      have z2 : (k : Int) < 5 := by omega
      have z3 : (0 : Int) ≤ (q : Int) := by omega
      have z4 : (q : Int) < (r.length : Int) := by omega
      obtain ⟨hcell, hfz⟩ := hrec k (by omega)
      have HR := Lib.hid hrec
      have HB := Lib.hid hb
      have HLL := Lib.hid hll
      clear hx hx' hyy hgd hgc hq hrec hb hll hin
      go_wp2_with fail
      go_region
      go_wp2_with fail
      go_roundw
      case rel =>
        have hs := HR.out.store y (by rw [HLL.out]; omega)
        rw [HLL.out] at hs
        exact ⟨k + 1, _, by omega, by go_num, Lib.hid (by rw [HS.out, hL.out]), hs.drewN 1, by simpa using hsz, (HB.out.setCell (Nat.le_refl _) _).drew⟩
      case measure => simp [intOf]; omega
    · obtain rfl : k = cs.length := by omega
      go_wp2_with fail
      go_ret
      exact ⟨_, rfl, by have := hL.out; rw [List.take_length] at this; rw [← this]; exact hrec, Nat.le_refl _, hsz, hb⟩
/-- A record, read as a slice of five ints. -/
def pad5 (r : List Int) : List Int := (List.range 5).map fun j => r.getD j 0
theorem pad5_get (r : List Int) (j : Nat) (h : j < (pad5 r).length) : (pad5 r)[j] = r.getD j 0 := by simp [pad5]
theorem pad5_len (r : List Int) : (pad5 r).length = 5 := by simp [pad5]
theorem RecAt.read {w : World} {b : Nat} {r : List Int} (h : RecAt w b r) : ReadI w (.slice (some ⟨b, 0, none⟩) 5 5) (pad5 r) := by
  refine ⟨some ⟨b, 0, none⟩, 5, by rw [pad5_len], fun i hi => ⟨_, rfl, ?_⟩⟩
  rw [add_zero_off, (h i (by rw [pad5_len] at hi; exact hi)).1, pad5_get]
end Go.Proofs.Ytficnbeciohpfaa
namespace Go.Proofs.Ytficnbeciohpfaa
open Go.RowKit

/-- The six cells of a row's sides. -/
def sidC (s : List Int) : List Value := [.int .i64 (s.getD 0 0), .int .i64 (s.getD 1 0), .int .i64 (s.getD 2 0), .int .i64 (s.getD 3 0), .int .i64 (s.getD 4 0), .int .i64 (s.getD 5 0)]
theorem sidC_get (s : List Int) {j : Nat} (h : j < 6) : (sidC s)[j]? = some (.int .i64 (s.getD j 0)) := by
  rcases (show j = 0 ∨ j = 1 ∨ j = 2 ∨ j = 3 ∨ j = 4 ∨ j = 5 by omega) with rfl | rfl | rfl | rfl | rfl | rfl <;> rfl
def sidsV : List (List Int) → List Value
  | [] => []
  | s :: t => sidC s ++ sidsV t
theorem sidsV_len : ∀ l : List (List Int), (sidsV l).length = l.length * 6
  | [] => rfl
  | s :: t => by simp only [sidsV, List.length_append, List.length_cons, sidsV_len t]; simp [sidC]; omega
theorem sidsV_get : ∀ (l : List (List Int)) (i : Nat), i < l.length → ∀ j, j < 6 → (sidsV l)[i * 6 + j]? = some (.int .i64 ((l.getD i []).getD j 0))
  | [], i, h, _, _ => absurd h (Nat.not_lt_zero _)
  | s :: t, 0, _, j, hj => by
    have : (sidsV (s :: t))[0 * 6 + j]? = (sidC s)[j]? := by
      rw [Nat.zero_mul, Nat.zero_add]
      show (sidC s ++ sidsV t)[j]? = _
      exact List.getElem?_append_left (by simp [sidC]; omega)
    rw [this]
    exact sidC_get s hj
  | s :: t, i + 1, h, j, hj => by
    have ih := sidsV_get t i (by simpa using h) j hj
    have : (sidsV (s :: t))[(i + 1) * 6 + j]? = (sidsV t)[i * 6 + j]? := by
      show (sidC s ++ sidsV t)[(i + 1) * 6 + j]? = _
      rw [List.getElem?_append_right (by simp [sidC]; omega)]
      congr 1
      simp [sidC]; omega
    rw [this, ih]; rfl
theorem sidsV_app (s : List Int) : ∀ l : List (List Int), sidsV (l ++ [s]) = sidsV l ++ sidC s
  | [] => by simp [sidsV]
  | t :: l => by simp only [List.cons_append, sidsV, sidsV_app s l, List.append_assoc]
/-- A slice of sides that the call owns. -/
def OwnSd (w : World) (B : Nat) (v : Value) (l : List (List Int)) : Prop := w.ownsRow B 72 6 v l.length (sidsV l)
/-- A slice of sides that can be read. -/
def ReadSd (w : World) (v : Value) (l : List (List Int)) : Prop :=
  ∃ (a : Option Addr) (cap : Nat), v = .slice a l.length cap ∧ ∀ i, i < l.length → ∃ b o, a = some ⟨b, o, none⟩ ∧ ∀ j, j < 6 → w.cell? ⟨b, o + i * 6 + j, none⟩ = some (.int .i64 ((l.getD i []).getD j 0))
theorem infoSd : (Try.prog.info? 72).map (fun i => (i.zero, i.size, i.bytes)) = some (some (.agg #[.int .i64 0, .int .i64 0, .int .i64 0, .int .i64 0, .int .i64 0, .int .i64 0]), 6, 48) := by kernel_rfl
theorem OwnSd.read {w : World} {B : Nat} {v : Value} {l : List (List Int)} (h : OwnSd w B v l) : ReadSd w v l := by
  rcases h.2 with ⟨rfl, h0⟩ | ⟨g, cap, cur, rfl, hB, hgg, rest⟩
  · exact ⟨none, 0, by rw [h0], fun i hi => by omega⟩
  · refine ⟨_, cap, rfl, fun i hi => ⟨g, 0, rfl, fun j hj => ?_⟩⟩
    rw [Nat.zero_add, World.ownsRow.cellAt h (i * 6 + j) (by omega), sidsV_get l i hi j hj]
theorem ReadSd.kept {w w' : World} {v : Value} {l : List (List Int)} (h : ReadSd w v l) (hb : Below w.heap.size w w') : ReadSd w' v l := by
  obtain ⟨a, cap, hv, hc⟩ := h
  refine ⟨a, cap, hv, fun i hi => ?_⟩
  obtain ⟨b, o, ha, h0⟩ := hc i hi
  exact ⟨b, o, ha, fun j hj => (hb.cell (World.block_lt_of_cell? w _ (h0 j hj))).trans (h0 j hj)⟩
theorem OwnSd.lt {w : World} {B : Nat} {v : Value} {l : List (List Int)} (h : OwnSd w B v l) : ∀ k, v.ownBlock = some k → B ≤ k ∧ k < w.heap.size := World.ownsRow.lt h
theorem OwnSd.below {w w' : World} {B C : Nat} {v : Value} {l : List (List Int)} (h : OwnSd w B v l) (hb : Below C w w') (hC : ∀ k, v.ownBlock = some k → k < C) : OwnSd w' B v l := by
  refine ⟨h.1, ?_⟩
  rcases h.2 with hn | ⟨g, cap, cur, rfl, hB, hgg, rest⟩
  · exact .inl hn
  · exact .inr ⟨g, cap, cur, rfl, hB, (hb.block g (hC g rfl)).trans hgg, rest⟩
theorem OwnSd.nil (w : World) (B : Nat) : OwnSd w B (.slice none 0 0) [] := World.ownsRow_nil _ _ _ _
theorem OwnSd.made {w : World} {B : Nat} {v : Value} (h : w.ownsRow B 72 6 v 0 []) : OwnSd w B v [] := h
theorem OwnSd.snoc {w : World} {B : Nat} {v : Value} {l : List (List Int)} {s : List Int} (h : w.ownsRow B 72 6 v (l.length + 1) (sidsV l ++ sidC s)) : OwnSd w B v (l ++ [s]) := by
  unfold OwnSd
  rw [List.length_append, List.length_singleton, sidsV_app]; exact h
/-- Six cells in a block of their own. -/
def Box6 (w : World) (b : Nat) (a0 a1 a2 a3 a4 a5 : Int) : Prop :=
  w.cell? ⟨b, 0, none⟩ = some (.int .i64 a0) ∧ w.cell? ⟨b, 1, none⟩ = some (.int .i64 a1) ∧ w.cell? ⟨b, 2, none⟩ = some (.int .i64 a2) ∧ w.cell? ⟨b, 3, none⟩ = some (.int .i64 a3) ∧ w.cell? ⟨b, 4, none⟩ = some (.int .i64 a4) ∧ w.cell? ⟨b, 5, none⟩ = some (.int .i64 a5)
theorem Box6.new (w : World) (T : TypeId) (a0 a1 a2 a3 a4 a5 : Int) : Box6 (w.alloc (.cells #[.int .i64 a0, .int .i64 a1, .int .i64 a2, .int .i64 a3, .int .i64 a4, .int .i64 a5] T)) w.heap.size a0 a1 a2 a3 a4 a5 := by
  have h := World.cell?_alloc_mark w #[.int .i64 a0, .int .i64 a1, .int .i64 a2, .int .i64 a3, .int .i64 a4, .int .i64 a5] T (0, 0)
  exact ⟨(h 0).trans rfl, (h 1).trans rfl, (h 2).trans rfl, (h 3).trans rfl, (h 4).trans rfl, (h 5).trans rfl⟩
theorem Box6.kept {w w' : World} {b C : Nat} {a0 a1 a2 a3 a4 a5 : Int} (h : Box6 w b a0 a1 a2 a3 a4 a5) (hb : Below C w w') (hC : b < C) : Box6 w' b a0 a1 a2 a3 a4 a5 :=
  ⟨(hb.cell hC).trans h.1, (hb.cell hC).trans h.2.1, (hb.cell hC).trans h.2.2.1, (hb.cell hC).trans h.2.2.2.1, (hb.cell hC).trans h.2.2.2.2.1, (hb.cell hC).trans h.2.2.2.2.2⟩
end Go.Proofs.Ytficnbeciohpfaa
namespace Go.Proofs.Ytficnbeciohpfaa
open Go.RowKit

theorem equal_rec {a b : List Int} (ha : R5 a) (hb : R5 b) (w : World) : (Op.equalIn 10000 70 (recV a) (recV b)).run Try.prog w = .ok (decide (a = b)) w := by
  obtain ⟨r, h1, h2⟩ := run_equal_deep w (m := 2) (by omega) (k := 70) (arrR.at 0) (by simp only [arrR.hu]) (keyOf_klR ha) (keyOf_klR hb)
  have hr : r = decide (a = b) := by
    rw [Bool.eq_iff_iff, h2, decide_eq_true_iff]
    exact ⟨klR_inj ha hb, fun e => by rw [e]⟩
  rw [← hr]; exact h1
theorem equal_sid {a b : List Int} (ha : S6 a) (hb : S6 b) (w : World) : (Op.equalIn 10000 72 (sidV a) (sidV b)).run Try.prog w = .ok (decide (a = b)) w := by
  obtain ⟨r, h1, h2⟩ := run_equal_deep w (m := 3) (by omega) (k := 72) (by kernel_rfl) (by simp only [Try.underlying72]) (keyOf_klS ha) (keyOf_klS hb)
  have hr : r = decide (a = b) := by
    rw [Bool.eq_iff_iff, h2, decide_eq_true_iff]
    exact ⟨klS_inj ha hb, fun e => by rw [e]⟩
  rw [← hr]; exact h1
theorem take5_get (a : List Int) {j : Nat} (h : j < 5) : (a.take 5).getD j 0 = a.getD j 0 := by
  rw [List.getD_eq_getElem?_getD, List.getD_eq_getElem?_getD, List.getElem?_take, if_pos h]
theorem s6_r5 {a : List Int} (h : S6 a) : R5 (a.take 5) := ⟨by rw [List.length_take, h.1]; rfl, fun j hj => by rw [take5_get a hj]; exact h.2 j (by omega)⟩
theorem take5_rec (a : List Int) : recV (a.take 5) = .agg #[.int .i64 (a.getD 0 0), .int .i64 (a.getD 1 0), .int .i64 (a.getD 2 0), .int .i64 (a.getD 3 0), .int .i64 (a.getD 4 0)] := by
  unfold recV
  rw [take5_get a (by omega), take5_get a (by omega), take5_get a (by omega), take5_get a (by omega), take5_get a (by omega)]
set_option maxRecDepth 20000 in
set_option maxHeartbeats 800000 in
theorem violate_any (a b : List Int) (w : World) (ha : S6 a) (hb : S6 b) :
    Calls Try.prog 67 #[sidV a, sidV b] w fun e w' => e = .returned (.bool (decide (a.take 5 = b.take 5) && !decide (a = b))) ∧ Below w.heap.size w w' := by
  have hR := equal_rec (s6_r5 ha) (s6_r5 hb)
  have hS := equal_sid ha hb
  rw [take5_rec, take5_rec] at hR
  unfold sidV at hS ⊢
  generalize a.getD 0 0 = a0, a.getD 1 0 = a1, a.getD 2 0 = a2, a.getD 3 0 = a3, a.getD 4 0 = a4, a.getD 5 0 = a5 at *
  generalize b.getD 0 0 = b0, b.getD 1 0 = b1, b.getD 2 0 = b2, b.getD 3 0 = b3, b.getD 4 0 = b4, b.getD 5 0 = b5 at *
  have hx := Box6.new w 72 a0 a1 a2 a3 a4 a5
  have hs : (w.alloc (.cells #[.int .i64 a0, .int .i64 a1, .int .i64 a2, .int .i64 a3, .int .i64 a4, .int .i64 a5] 72)).heap.size = w.heap.size + 1 := by simp
  have hy := Box6.new (w.alloc (.cells #[.int .i64 a0, .int .i64 a1, .int .i64 a2, .int .i64 a3, .int .i64 a4, .int .i64 a5] 72)) 72 b0 b1 b2 b3 b4 b5
  rw [hs] at hy
  replace hx := hx.kept ((Below.refl _ _).alloc (Nat.le_refl _) (.cells #[.int .i64 b0, .int .i64 b1, .int .i64 b2, .int .i64 b3, .int .i64 b4, .int .i64 b5] 72)) (by simp)
  obtain ⟨x0, x1, x2, x3, x4, x5⟩ := hx
  obtain ⟨y0, y1, y2, y3, y4, y5⟩ := hy
  have hbw := ((Below.refl w.heap.size w).alloc (Nat.le_refl _) (.cells #[.int .i64 a0, .int .i64 a1, .int .i64 a2, .int .i64 a3, .int .i64 a4, .int .i64 a5] 72)).alloc (by simp) (.cells #[.int .i64 b0, .int .i64 b1, .int .i64 b2, .int .i64 b3, .int .i64 b4, .int .i64 b5] 72)
  clear ha hb hs
  obtain ⟨p, hp⟩ : ∃ p, p = decide (a.take 5 = b.take 5) := ⟨_, rfl⟩
  obtain ⟨q, hq⟩ : ∃ q, q = decide (a = b) := ⟨_, rfl⟩
  rw [← hp] at hR ⊢
  rw [← hq] at hS ⊢
  clear hp hq
  cases p with
  | false =>
    go_enter Try.func67, Try.ntmps67
    go_wp2_with fail
    go_ret
    exact ⟨rfl, hbw⟩
  | true =>
    go_enter Try.func67, Try.ntmps67
    go_wp2_with fail
    go_ret
    exact ⟨ret_b (by cases q <;> rfl), hbw⟩
end Go.Proofs.Ytficnbeciohpfaa
namespace Go.Proofs.Ytficnbeciohpfaa
open Go.RowKit

/-- A dependency of n columns. -/
def depB (n l r : Int) : Bool := decide (1 ≤ n ∧ n ≤ 5) && (isA n l && decide (0 ≤ r ∧ r ≤ n - 1))
theorem depB_iff {n l r : Int} : depB n l r = true ↔ (1 ≤ n ∧ n ≤ 5) ∧ isA n l = true ∧ 0 ≤ r ∧ r ≤ n - 1 := by unfold depB; simp
set_option maxHeartbeats 800000 in
theorem isDep_any (n l r : Int) (w : World) :
    Calls Try.prog 10 #[.int .i64 n, .agg #[.int .i64 l, .int .i64 r]] w fun e w' => e = .returned (.bool (depB n l r)) ∧ Below w.heap.size w w' := by
  have hb1 := (Below.refl w.heap.size w).alloc (Nat.le_refl _) (.cells #[.int .i64 l, .int .i64 r] 25)
  obtain ⟨c0, c1⟩ := zero2 w 25 (.int .i64 l) (.int .i64 r)
  by_cases hn : 1 ≤ n ∧ n ≤ 5
  · have h1 : decide (1 ≤ n ∧ n ≤ 5) = true := decide_eq_true hn
    have h0 : 0 ≤ n := by omega
    have h2 : n ≤ 5 := hn.2
    cases ha : isA n l with
    | true =>
      have HE : Hid (depB n l r = (decide (0 ≤ r) && decide (r ≤ n - 1))) := Lib.hid (by unfold depB; rw [h1, ha]; simp)
      have HA := Lib.hid (isA_any n l)
      have HI := Lib.hid (fun w' => in_any n 1 5 w')
      have HR := Lib.hid (fun w' => in_any r 0 (n - 1) w')
      rw [h1] at HI
      rw [ha] at HA
      clear ha hn h1
      go_enter Try.func10, Try.ntmps10
      go_wp2_with fail
      refine (HI.out _).mono ?_
      rintro e w' ⟨rfl, rfl⟩
      go_wp2_with fail
      refine (HA.out _).mono ?_
      rintro e w' ⟨rfl, rfl⟩
      go_wp2_with fail
      refine (HR.out _).mono ?_
      rintro e w' ⟨rfl, rfl⟩
      go_wp2_with fail
      go_ret
      exact ⟨ret_b HE.out, hb1⟩
    | false =>
      have HE : Hid (depB n l r = false) := Lib.hid (by unfold depB; rw [ha]; simp)
      have HA := Lib.hid (isA_any n l)
      have HI := Lib.hid (fun w' => in_any n 1 5 w')
      rw [h1] at HI
      rw [ha] at HA
      clear ha hn h1
      go_enter Try.func10, Try.ntmps10
      go_wp2_with fail
      refine (HI.out _).mono ?_
      rintro e w' ⟨rfl, rfl⟩
      go_wp2_with fail
      refine (HA.out _).mono ?_
      rintro e w' ⟨rfl, rfl⟩
      go_wp2_with fail
      go_ret
      exact ⟨ret_b HE.out, hb1⟩
  · have h1 : decide (1 ≤ n ∧ n ≤ 5) = false := decide_eq_false hn
    have HE : Hid (depB n l r = false) := Lib.hid (by unfold depB; rw [h1]; simp)
    have HI := Lib.hid (fun w' => in_any n 1 5 w')
    rw [h1] at HI
    clear hn h1
    go_enter Try.func10, Try.ntmps10
    go_wp2_with fail
    refine (HI.out _).mono ?_
    rintro e w' ⟨rfl, rfl⟩
    go_wp2_with fail
    go_ret
    exact ⟨ret_b HE.out, hb1⟩
/-- Two cells of a block of the call's own, behind two more blocks. -/
theorem dep_box (w : World) (T : TypeId) (A C : Obj) (a b : Value) : (((w.alloc A).alloc (.cells #[a, b] T)).alloc C).cell? ⟨w.heap.size + 1, 0, none⟩ = some a ∧ (((w.alloc A).alloc (.cells #[a, b] T)).alloc C).cell? ⟨w.heap.size + 1, 1, none⟩ = some b := by
  obtain ⟨h0, h1⟩ := zero2 (w.alloc A) T a b
  have hs : (w.alloc A).heap.size = w.heap.size + 1 := by simp
  rw [hs] at h0 h1
  have hb := (Below.refl ((w.alloc A).alloc (.cells #[a, b] T)).heap.size ((w.alloc A).alloc (.cells #[a, b] T))).alloc (Nat.le_refl _) C
  exact ⟨(hb.cell (p := ⟨w.heap.size + 1, 0, none⟩) (by simp)).trans h0, (hb.cell (p := ⟨w.heap.size + 1, 1, none⟩) (by simp)).trans h1⟩
theorem toDep_any (l r : Int) (w : World) :
    Calls Try.prog 11 #[.agg #[.int .i64 l, .int .i64 r]] w fun e w' => e = .returned (.agg #[.int .i64 l, .int .i64 r]) ∧ Below w.heap.size w w' := by
  have hb1 := (Below.refl w.heap.size w).alloc (Nat.le_refl _) (.cells #[.int .i64 l, .int .i64 r] 23)
  have hb2 := (hb1.alloc hb1.size (.cells #[.int .i64 l, .int .i64 r] 25))
  have hb3 := (hb2.alloc hb2.size (.cells #[.int .i64 l, .int .i64 r] 25))
  obtain ⟨c0, c1⟩ := zero2 w 23 (.int .i64 l) (.int .i64 r)
  obtain ⟨d0, d1⟩ := dep_box w 25 (.cells #[.int .i64 l, .int .i64 r] 23) (.cells #[.int .i64 l, .int .i64 r] 25) (.int .i64 l) (.int .i64 r)
  go_enter Try.func11, Try.ntmps11
  go_wp2_with fail
  exact bodyPost_ret (v := .agg #[.int .i64 l, .int .i64 r]) (by simp [results, Try.results11, go_sem, d0, d1]) rfl ⟨rfl, hb3⟩
end Go.Proofs.Ytficnbeciohpfaa
