/- Texts of this claim, merged: CmpI, RecO, SidL, SidV, SidF, Told, PrtE0, CntK. Conditions: as stated. -/
import Derived.Test.YtnbjcelfdppkcadGreatXz40
import Derived.Test.YtnbjcelfdppkcadGreatXz37
import Derived.Test.YtnbjcelfdppkcadGreatXz3
import Derived.Deep.RegionHeld3
import Derived.RegionTactic
import Derived.Test.YtnbjcelfdppkcadGreatXz5
import Derived.Deep.RegionLaw
import Derived.Test.YtnbjcelfdppkcadGreatXz16
import Derived.Test.YtnbjcelfdppkcadGreatXz13
import Derived.Test.YtnbjcelfdppkcadGreatXz7
import Derived.Test.YtnbjcelfdppkcadGreatXz12
namespace Go.Proofs.YtnbjcelfdppkcadGreat
open Go.RowKit

def cmpI (x y : Int) : Int := if x < y then -1 else if y < x then 1 else 0
/-- The order of rows as a number. -/
def cmpL : List Int → List Int → Int
  | [], [] => 0
  | [], _ :: _ => -1
  | _ :: _, [] => 1
  | a :: s, b :: t => if cmpI a b = 0 then cmpL s t else cmpI a b
theorem cmpI_zero {x y : Int} : cmpI x y = 0 ↔ x = y := by
  unfold cmpI
  split
  · constructor <;> (intro; omega)
  · split
    · constructor <;> (intro; omega)
    · constructor <;> (intro; omega)
theorem cmpL_less : ∀ (a b : List Int), decide (cmpL a b < 0) = lessR a b
  | [], [] => rfl
  | [], _ :: _ => rfl
  | _ :: _, [] => rfl
  | a :: s, b :: t => by
    unfold cmpL lessR
    by_cases h : a = b
    · rw [if_pos (cmpI_zero.2 h), if_pos h]; exact cmpL_less s t
    · rw [if_neg (fun e => h (cmpI_zero.1 e)), if_neg h]
      unfold cmpI
      by_cases h1 : a < b
      · simp [h1]
      · rw [if_neg h1, if_pos (by omega)]; simp [h1]
theorem cmpL_drop {a b : List Int} {k : Nat} (h1 : k < a.length) (h2 : k < b.length) : cmpL (a.drop k) (b.drop k) = if cmpI a[k] b[k] = 0 then cmpL (a.drop (k + 1)) (b.drop (k + 1)) else cmpI a[k] b[k] := by
  rw [List.drop_eq_getElem_cons h1, List.drop_eq_getElem_cons h2]; rfl

end Go.Proofs.YtnbjcelfdppkcadGreat
namespace Go.Proofs.YtnbjcelfdppkcadGreat
open Go.RowKit

/-- The block b holds the values r, and 0 behind them, in five cells. -/
def RecAt (w : World) (b : Nat) (r : List Int) : Prop := ∀ j, j < 5 → w.cell? ⟨b, j, none⟩ = some (.int .i64 (r.getD j 0)) ∧ w.frozen? ⟨b, j, none⟩ = false
theorem RecAt.kept {w w' : World} {b C : Nat} {r : List Int} (h : RecAt w b r) (hb : Below C w w') (hC : b < C) : RecAt w' b r := fun j hj => ⟨(hb.cell hC).trans (h j hj).1, (hb.frozen hC).trans (h j hj).2⟩
theorem getD_end (l : List Int) (j : Nat) (h : l.length ≤ j) : l.getD j 0 = 0 := by rw [List.getD_eq_getElem?_getD, List.getElem?_eq_none h]; rfl
theorem getD_app (l : List Int) (x : Int) (j : Nat) : (l ++ [x]).getD j 0 = if j = l.length then x else l.getD j 0 := by
  by_cases h : j < l.length + 1
  · rw [getD_snoc _ _ _ _ h]
    by_cases h2 : j = l.length
    · simp [h2]
    · rw [if_pos (by omega), if_neg h2]
  · rw [if_neg (by omega), getD_end l j (by omega), getD_end (l ++ [x]) j (by rw [List.length_append, List.length_singleton]; omega)]
theorem RecAt.store {w : World} {b : Nat} {l : List Int} (h : RecAt w b l) (x : Int) (h5 : l.length < 5) : RecAt (w.setCell ⟨b, l.length, none⟩ (.int .i64 x)) b (l ++ [x]) := by
  intro j hj
  rw [getD_app, World.frozen?_setCell]
  refine ⟨?_, (h j hj).2⟩
  by_cases hjl : j = l.length
  · subst hjl
    rw [if_pos rfl]
    exact World.cell?_setCell_same _ _ _ (h _ h5).1
  · rw [if_neg hjl]
    exact (World.cell?_setCell_other _ _ _ _ (by intro e; simp only [Addr.mk.injEq] at e; omega)).trans (h j hj).1
theorem RecAt.drewN {w : World} {b : Nat} {l : List Int} (h : RecAt w b l) (n : Nat) : RecAt (w.drewN n) b l := fun j hj => h j hj
theorem RecAt.fresh (w : World) : RecAt (w.alloc (.cells #[.int .i64 0, .int .i64 0, .int .i64 0, .int .i64 0, .int .i64 0] 119)) w.heap.size [] := by
  intro j hj
  rw [show ([] : List Int).getD j 0 = 0 by simp]
  refine ⟨?_, ?_⟩
  · rw [World.cell?_alloc_mark w #[.int .i64 0, .int .i64 0, .int .i64 0, .int .i64 0, .int .i64 0] 119 (0, 0) j]
    rcases (show j = 0 ∨ j = 1 ∨ j = 2 ∨ j = 3 ∨ j = 4 by omega) with rfl | rfl | rfl | rfl | rfl <;> rfl
  · exact World.frozen?_alloc_new _ _ _ _
set_option maxHeartbeats 1600000 in
theorem recordOf_any (v vc : Value) (r cs : List Int) (w : World) (hr : ReadI w v r) (hc : ReadI w vc cs) (h5 : cs.length ≤ 5) (hin : ∀ x ∈ cs, 0 ≤ x ∧ x < (r.length : Int)) :
    Calls Tryz.prog 107 #[v, vc] w fun e w' => ∃ b, e = .returned (.pointer (some ⟨b, 0, none⟩)) ∧ RecAt w' b (cs.map fun k => r.getD k.toNat 0) ∧ w.heap.size ≤ b ∧ b < w'.heap.size ∧ Below w.heap.size w w' := by
  obtain ⟨a, cap, rfl, ha⟩ := hr
  obtain ⟨a', cap', rfl, ha'⟩ := hc
  have HA := Lib.hid ha
  have HA' := Lib.hid ha'
  have HIN := Lib.hid hin
  clear ha ha' hin
  have hb1 := (Below.refl w.heap.size w).alloc (Nat.le_refl _) (.cells #[.int .i64 0, .int .i64 0, .int .i64 0, .int .i64 0, .int .i64 0] 119)
  have hrec := RecAt.fresh w
  have hsz : w.heap.size < (w.alloc (.cells #[.int .i64 0, .int .i64 0, .int .i64 0, .int .i64 0, .int .i64 0] 119)).heap.size := by simp
  go_enter Tryz.func107, Tryz.ntmps107
  go_wp2_with fail
  go_loopw [11] (fun iv wr => ∃ (k : Nat) (l : List Int), k ≤ cs.length ∧ iv = .int .i64 (k : Int) ∧ Hid (l = (cs.take k).map fun k => r.getD k.toNat 0) ∧ RecAt wr w.heap.size l ∧ w.heap.size < wr.heap.size ∧ Below w.heap.size w wr) (fun iv _ => cs.length - (intOf iv).toNat)
  case atStart => exact ⟨0, [], by omega, rfl, Lib.hid rfl, hrec, hsz, hb1⟩
  case round =>
    clear hrec hsz hb1
    obtain ⟨k, l, hk, rfl, hL, hrec, hsz, hb⟩ := hrel
    have hll : l.length = k := by rw [hL.out, List.length_map, List.length_take]; omega
    by_cases hlt : k < cs.length
    · obtain ⟨x', rfl, hx'⟩ := HA'.out k hlt
      have hin := HIN.out cs[k] (List.getElem_mem _)
      obtain ⟨q, hq⟩ : ∃ q : Nat, cs[k] = (q : Int) := ⟨cs[k].toNat, by omega⟩
      rw [hq] at hin hx'
      obtain ⟨x, rfl, hx⟩ := HA.out q (by omega)
      have hgd := get_getD r q (by omega)
      rw [hgd] at hx
      have hy := (hb.cell (World.block_lt_of_cell? w _ hx)).trans hx
      have hy' := (hb.cell (World.block_lt_of_cell? w _ hx')).trans hx'
      have HS := Lib.hid (map_take_succ cs (fun k => r.getD k.toNat 0) 0 k hlt)
      have hgc := get_getD cs k hlt
      rw [← hgc, hq, show ((q : Nat) : Int).toNat = q from rfl] at HS
      obtain ⟨y, hyy⟩ : ∃ y, r.getD q 0 = y := ⟨_, rfl⟩
      rw [hyy] at hy HS
      have z0 : (0 : Int) ≤ (k : Int) := by omega
      have z1 : (k : Int) < (cs.length : Int) := by omega
      have z2 : (k : Int) < 5 := by omega
      have z3 : (0 : Int) ≤ (q : Int) := by omega
      have z4 : (q : Int) < (r.length : Int) := by omega
      obtain ⟨hcell, hfz⟩ := hrec k (by omega)
      have HR := Lib.hid hrec
      have HB := Lib.hid hb
      have HLL := Lib.hid hll
      clear hx hx' hyy hgd hgc hq hrec hb hll hin
      go_wp2_with fail
      go_region
      go_wp2_with fail
      go_roundw
      case rel =>
        have hs := HR.out.store y (by rw [HLL.out]; omega)
        rw [HLL.out] at hs
        exact ⟨k + 1, _, by omega, by go_num, Lib.hid (by rw [HS.out, hL.out]), hs.drewN 1, by simpa using hsz, (HB.out.setCell (Nat.le_refl _) _).drew⟩
      case measure => simp [intOf]; omega
    · obtain rfl : k = cs.length := by omega
      go_wp2_with fail
      go_ret
      exact ⟨_, rfl, by have := hL.out; rw [List.take_length] at this; rw [← this]; exact hrec, Nat.le_refl _, hsz, hb⟩
/-- A record, read as a slice of five ints. -/
def pad5 (r : List Int) : List Int := (List.range 5).map fun j => r.getD j 0
theorem pad5_get (r : List Int) (j : Nat) (h : j < (pad5 r).length) : (pad5 r)[j] = r.getD j 0 := by simp [pad5]
theorem pad5_len (r : List Int) : (pad5 r).length = 5 := by simp [pad5]
theorem RecAt.read {w : World} {b : Nat} {r : List Int} (h : RecAt w b r) : ReadI w (.slice (some ⟨b, 0, none⟩) 5 5) (pad5 r) := by
  refine ⟨some ⟨b, 0, none⟩, 5, by rw [pad5_len], fun i hi => ⟨_, rfl, ?_⟩⟩
  rw [add_zero_off, (h i (by rw [pad5_len] at hi; exact hi)).1, pad5_get]
end Go.Proofs.YtnbjcelfdppkcadGreat
namespace Go.Proofs.YtnbjcelfdppkcadGreat
open Go.RowKit

/-- The six cells of a row's sides. -/
def sidC (s : List Int) : List Value := [.int .i64 (s.getD 0 0), .int .i64 (s.getD 1 0), .int .i64 (s.getD 2 0), .int .i64 (s.getD 3 0), .int .i64 (s.getD 4 0), .int .i64 (s.getD 5 0)]
theorem sidC_get (s : List Int) {j : Nat} (h : j < 6) : (sidC s)[j]? = some (.int .i64 (s.getD j 0)) := by
  rcases (show j = 0 ∨ j = 1 ∨ j = 2 ∨ j = 3 ∨ j = 4 ∨ j = 5 by omega) with rfl | rfl | rfl | rfl | rfl | rfl <;> rfl
def sidsV : List (List Int) → List Value
  | [] => []
  | s :: t => sidC s ++ sidsV t
theorem sidsV_len : ∀ l : List (List Int), (sidsV l).length = l.length * 6
  | [] => rfl
  | s :: t => by simp only [sidsV, List.length_append, List.length_cons, sidsV_len t]; simp [sidC]; omega
theorem sidsV_get : ∀ (l : List (List Int)) (i : Nat), i < l.length → ∀ j, j < 6 → (sidsV l)[i * 6 + j]? = some (.int .i64 ((l.getD i []).getD j 0))
  | [], i, h, _, _ => absurd h (Nat.not_lt_zero _)
  | s :: t, 0, _, j, hj => by
    have : (sidsV (s :: t))[0 * 6 + j]? = (sidC s)[j]? := by
      rw [Nat.zero_mul, Nat.zero_add]
      show (sidC s ++ sidsV t)[j]? = _
      exact List.getElem?_append_left (by simp [sidC]; omega)
    rw [this]
    exact sidC_get s hj
  | s :: t, i + 1, h, j, hj => by
    have ih := sidsV_get t i (by simpa using h) j hj
    have : (sidsV (s :: t))[(i + 1) * 6 + j]? = (sidsV t)[i * 6 + j]? := by
      show (sidC s ++ sidsV t)[(i + 1) * 6 + j]? = _
      rw [List.getElem?_append_right (by simp [sidC]; omega)]
      congr 1
      simp [sidC]; omega
    rw [this, ih]; rfl
theorem sidsV_app (s : List Int) : ∀ l : List (List Int), sidsV (l ++ [s]) = sidsV l ++ sidC s
  | [] => by simp [sidsV]
  | t :: l => by simp only [List.cons_append, sidsV, sidsV_app s l, List.append_assoc]
/-- A slice of sides that the call owns. -/
def OwnSd (w : World) (B : Nat) (v : Value) (l : List (List Int)) : Prop := w.ownsRow B 123 6 v l.length (sidsV l)
/-- A slice of sides that can be read. -/
def ReadSd (w : World) (v : Value) (l : List (List Int)) : Prop :=
  ∃ (a : Option Addr) (cap : Nat), v = .slice a l.length cap ∧ ∀ i, i < l.length → ∃ b o, a = some ⟨b, o, none⟩ ∧ ∀ j, j < 6 → w.cell? ⟨b, o + i * 6 + j, none⟩ = some (.int .i64 ((l.getD i []).getD j 0))
theorem infoSd : (Tryz.prog.info? 123).map (fun i => (i.zero, i.size, i.bytes)) = some (some (.agg #[.int .i64 0, .int .i64 0, .int .i64 0, .int .i64 0, .int .i64 0, .int .i64 0]), 6, 48) := by kernel_rfl
theorem OwnSd.read {w : World} {B : Nat} {v : Value} {l : List (List Int)} (h : OwnSd w B v l) : ReadSd w v l := by
  rcases h.2 with ⟨rfl, h0⟩ | ⟨g, cap, cur, rfl, hB, hgg, rest⟩
  · exact ⟨none, 0, by rw [h0], fun i hi => by omega⟩
  · refine ⟨_, cap, rfl, fun i hi => ⟨g, 0, rfl, fun j hj => ?_⟩⟩
    rw [Nat.zero_add, World.ownsRow.cellAt h (i * 6 + j) (by omega), sidsV_get l i hi j hj]
theorem ReadSd.kept {w w' : World} {v : Value} {l : List (List Int)} (h : ReadSd w v l) (hb : Below w.heap.size w w') : ReadSd w' v l := by
  obtain ⟨a, cap, hv, hc⟩ := h
  refine ⟨a, cap, hv, fun i hi => ?_⟩
  obtain ⟨b, o, ha, h0⟩ := hc i hi
  exact ⟨b, o, ha, fun j hj => (hb.cell (World.block_lt_of_cell? w _ (h0 j hj))).trans (h0 j hj)⟩
theorem OwnSd.lt {w : World} {B : Nat} {v : Value} {l : List (List Int)} (h : OwnSd w B v l) : ∀ k, v.ownBlock = some k → B ≤ k ∧ k < w.heap.size := World.ownsRow.lt h
theorem OwnSd.below {w w' : World} {B C : Nat} {v : Value} {l : List (List Int)} (h : OwnSd w B v l) (hb : Below C w w') (hC : ∀ k, v.ownBlock = some k → k < C) : OwnSd w' B v l := by
  refine ⟨h.1, ?_⟩
  rcases h.2 with hn | ⟨g, cap, cur, rfl, hB, hgg, rest⟩
  · exact .inl hn
  · exact .inr ⟨g, cap, cur, rfl, hB, (hb.block g (hC g rfl)).trans hgg, rest⟩
theorem OwnSd.nil (w : World) (B : Nat) : OwnSd w B (.slice none 0 0) [] := World.ownsRow_nil _ _ _ _
theorem OwnSd.made {w : World} {B : Nat} {v : Value} (h : w.ownsRow B 123 6 v 0 []) : OwnSd w B v [] := h
theorem OwnSd.snoc {w : World} {B : Nat} {v : Value} {l : List (List Int)} {s : List Int} (h : w.ownsRow B 123 6 v (l.length + 1) (sidsV l ++ sidC s)) : OwnSd w B v (l ++ [s]) := by
  unfold OwnSd
  rw [List.length_append, List.length_singleton, sidsV_app]; exact h
/-- Six cells in a block of their own. -/
def Box6 (w : World) (b : Nat) (a0 a1 a2 a3 a4 a5 : Int) : Prop :=
  w.cell? ⟨b, 0, none⟩ = some (.int .i64 a0) ∧ w.cell? ⟨b, 1, none⟩ = some (.int .i64 a1) ∧ w.cell? ⟨b, 2, none⟩ = some (.int .i64 a2) ∧ w.cell? ⟨b, 3, none⟩ = some (.int .i64 a3) ∧ w.cell? ⟨b, 4, none⟩ = some (.int .i64 a4) ∧ w.cell? ⟨b, 5, none⟩ = some (.int .i64 a5)
theorem Box6.new (w : World) (T : TypeId) (a0 a1 a2 a3 a4 a5 : Int) : Box6 (w.alloc (.cells #[.int .i64 a0, .int .i64 a1, .int .i64 a2, .int .i64 a3, .int .i64 a4, .int .i64 a5] T)) w.heap.size a0 a1 a2 a3 a4 a5 := by
  have h := World.cell?_alloc_mark w #[.int .i64 a0, .int .i64 a1, .int .i64 a2, .int .i64 a3, .int .i64 a4, .int .i64 a5] T (0, 0)
  exact ⟨(h 0).trans rfl, (h 1).trans rfl, (h 2).trans rfl, (h 3).trans rfl, (h 4).trans rfl, (h 5).trans rfl⟩
theorem Box6.kept {w w' : World} {b C : Nat} {a0 a1 a2 a3 a4 a5 : Int} (h : Box6 w b a0 a1 a2 a3 a4 a5) (hb : Below C w w') (hC : b < C) : Box6 w' b a0 a1 a2 a3 a4 a5 :=
  ⟨(hb.cell hC).trans h.1, (hb.cell hC).trans h.2.1, (hb.cell hC).trans h.2.2.1, (hb.cell hC).trans h.2.2.2.1, (hb.cell hC).trans h.2.2.2.2.1, (hb.cell hC).trans h.2.2.2.2.2⟩
end Go.Proofs.YtnbjcelfdppkcadGreat
namespace Go.Proofs.YtnbjcelfdppkcadGreat
open Go.RowKit

theorem equal_rec {a b : List Int} (ha : R5 a) (hb : R5 b) (w : World) : (Op.equalIn 10000 119 (recV a) (recV b)).run Tryz.prog w = .ok (decide (a = b)) w := by
  obtain ⟨r, h1, h2⟩ := run_equal_deep w (m := 2) (by omega) (k := 119) (arrR.at 0) (by simp only [arrR.hu]) (keyOf_klR ha) (keyOf_klR hb)
  have hr : r = decide (a = b) := by
    rw [Bool.eq_iff_iff, h2, decide_eq_true_iff]
    exact ⟨klR_inj ha hb, fun e => by rw [e]⟩
  rw [← hr]; exact h1
theorem equal_sid {a b : List Int} (ha : S6 a) (hb : S6 b) (w : World) : (Op.equalIn 10000 123 (sidV a) (sidV b)).run Tryz.prog w = .ok (decide (a = b)) w := by
  obtain ⟨r, h1, h2⟩ := run_equal_deep w (m := 3) (by omega) (k := 123) (by kernel_rfl) (by simp only [Tryz.underlying123]) (keyOf_klS ha) (keyOf_klS hb)
  have hr : r = decide (a = b) := by
    rw [Bool.eq_iff_iff, h2, decide_eq_true_iff]
    exact ⟨klS_inj ha hb, fun e => by rw [e]⟩
  rw [← hr]; exact h1
theorem take5_get (a : List Int) {j : Nat} (h : j < 5) : (a.take 5).getD j 0 = a.getD j 0 := by
  rw [List.getD_eq_getElem?_getD, List.getD_eq_getElem?_getD, List.getElem?_take, if_pos h]
theorem s6_r5 {a : List Int} (h : S6 a) : R5 (a.take 5) := ⟨by rw [List.length_take, h.1]; rfl, fun j hj => by rw [take5_get a hj]; exact h.2 j (by omega)⟩
theorem take5_rec (a : List Int) : recV (a.take 5) = .agg #[.int .i64 (a.getD 0 0), .int .i64 (a.getD 1 0), .int .i64 (a.getD 2 0), .int .i64 (a.getD 3 0), .int .i64 (a.getD 4 0)] := by
  unfold recV
  rw [take5_get a (by omega), take5_get a (by omega), take5_get a (by omega), take5_get a (by omega), take5_get a (by omega)]
set_option maxRecDepth 20000 in
set_option maxHeartbeats 800000 in
theorem violate_any (a b : List Int) (w : World) (ha : S6 a) (hb : S6 b) :
    Calls Tryz.prog 108 #[sidV a, sidV b] w fun e w' => e = .returned (.bool (decide (a.take 5 = b.take 5) && !decide (a = b))) ∧ Below w.heap.size w w' := by
  have hR := equal_rec (s6_r5 ha) (s6_r5 hb)
  have hS := equal_sid ha hb
  rw [take5_rec, take5_rec] at hR
  unfold sidV at hS ⊢
  generalize a.getD 0 0 = a0, a.getD 1 0 = a1, a.getD 2 0 = a2, a.getD 3 0 = a3, a.getD 4 0 = a4, a.getD 5 0 = a5 at *
  generalize b.getD 0 0 = b0, b.getD 1 0 = b1, b.getD 2 0 = b2, b.getD 3 0 = b3, b.getD 4 0 = b4, b.getD 5 0 = b5 at *
  have hx := Box6.new w 123 a0 a1 a2 a3 a4 a5
  have hs : (w.alloc (.cells #[.int .i64 a0, .int .i64 a1, .int .i64 a2, .int .i64 a3, .int .i64 a4, .int .i64 a5] 123)).heap.size = w.heap.size + 1 := by simp
  have hy := Box6.new (w.alloc (.cells #[.int .i64 a0, .int .i64 a1, .int .i64 a2, .int .i64 a3, .int .i64 a4, .int .i64 a5] 123)) 123 b0 b1 b2 b3 b4 b5
  rw [hs] at hy
  replace hx := hx.kept ((Below.refl _ _).alloc (Nat.le_refl _) (.cells #[.int .i64 b0, .int .i64 b1, .int .i64 b2, .int .i64 b3, .int .i64 b4, .int .i64 b5] 123)) (by simp)
  obtain ⟨x0, x1, x2, x3, x4, x5⟩ := hx
  obtain ⟨y0, y1, y2, y3, y4, y5⟩ := hy
  have hbw := ((Below.refl w.heap.size w).alloc (Nat.le_refl _) (.cells #[.int .i64 a0, .int .i64 a1, .int .i64 a2, .int .i64 a3, .int .i64 a4, .int .i64 a5] 123)).alloc (by simp) (.cells #[.int .i64 b0, .int .i64 b1, .int .i64 b2, .int .i64 b3, .int .i64 b4, .int .i64 b5] 123)
  clear ha hb hs
  obtain ⟨p, hp⟩ : ∃ p, p = decide (a.take 5 = b.take 5) := ⟨_, rfl⟩
  obtain ⟨q, hq⟩ : ∃ q, q = decide (a = b) := ⟨_, rfl⟩
  rw [← hp] at hR ⊢
  rw [← hq] at hS ⊢
  clear hp hq
  cases p with
  | false =>
    go_enter Tryz.func108, Tryz.ntmps108
    go_wp2_with fail
    go_ret
    exact ⟨rfl, hbw⟩
  | true =>
    go_enter Tryz.func108, Tryz.ntmps108
    go_wp2_with fail
    go_ret
    exact ⟨ret_b (by cases q <;> rfl), hbw⟩
end Go.Proofs.YtnbjcelfdppkcadGreat
namespace Go.Proofs.YtnbjcelfdppkcadGreat
open Go.RowKit

/-- Two rows' sides violate. -/
def vioB (l : List (List Int)) (i k : Nat) : Bool := decide ((l.getD i []).take 5 = (l.getD k []).take 5) && !decide (l.getD i [] = l.getD k [])
theorem cell_on6 {w w' : World} {p : Addr} {v : Value} (h : w.cell? p = some v) (b : Below w.heap.size w w') : w'.cell? p = some v := (b.cell (World.block_lt_of_cell? w _ h)).trans h
def CutSd (w : World) (b : Nat) (o i : Nat) (s0 s1 s2 s3 s4 s5 : Int) : Prop :=
  w.cell? ⟨b, o + i * 6, none⟩ = some (.int .i64 s0) ∧ w.cell? ⟨b, o + i * 6 + 1, none⟩ = some (.int .i64 s1) ∧ w.cell? ⟨b, o + i * 6 + 2, none⟩ = some (.int .i64 s2) ∧ w.cell? ⟨b, o + i * 6 + 3, none⟩ = some (.int .i64 s3) ∧ w.cell? ⟨b, o + i * 6 + 4, none⟩ = some (.int .i64 s4) ∧ w.cell? ⟨b, o + i * 6 + 5, none⟩ = some (.int .i64 s5)
theorem ReadSd.at {w : World} {a : Option Addr} {n cap : Nat} {l : List (List Int)} (h : ReadSd w (.slice a n cap) l) {i : Nat} (hi : i < l.length) (h6 : S6 (l.getD i [])) : ∃ b o s0 s1 s2 s3 s4 s5, a = some ⟨b, o, none⟩ ∧ l.getD i [] = [s0, s1, s2, s3, s4, s5] ∧ CutSd w b o i s0 s1 s2 s3 s4 s5 := by
  obtain ⟨a', cap', hv, hc⟩ := h
  cases hv
  obtain ⟨b, o, ha, h0⟩ := hc i hi
  exact ⟨b, o, _, _, _, _, _, _, ha, s6_list h6, h0 0 (by omega), h0 1 (by omega), h0 2 (by omega), h0 3 (by omega), h0 4 (by omega), h0 5 (by omega)⟩
theorem CutSd.on {w w' : World} {b o i : Nat} {s0 s1 s2 s3 s4 s5 : Int} (h : CutSd w b o i s0 s1 s2 s3 s4 s5) (hb : Below w.heap.size w w') : CutSd w' b o i s0 s1 s2 s3 s4 s5 :=
  ⟨cell_on6 h.1 hb, cell_on6 h.2.1 hb, cell_on6 h.2.2.1 hb, cell_on6 h.2.2.2.1 hb, cell_on6 h.2.2.2.2.1 hb, cell_on6 h.2.2.2.2.2 hb⟩
theorem sidV_six (s0 s1 s2 s3 s4 s5 : Int) : sidV [s0, s1, s2, s3, s4, s5] = .agg #[.int .i64 s0, .int .i64 s1, .int .i64 s2, .int .i64 s3, .int .i64 s4, .int .i64 s5] := rfl
set_option maxRecDepth 20000 in
set_option maxHeartbeats 1600000 in
theorem firstViolation_any (v : Value) (l : List (List Int)) (w : World) (hr : ReadSd w v l) (hS : ∀ i, i < l.length → S6 (l.getD i [])) (hl : l.length ≤ 1048576) :
    Calls Tryz.prog 83 #[v] w fun e w' => e = .returned (.tuple #[.int .i64 (pairI (vioB l) l.length).1, .int .i64 (pairI (vioB l) l.length).2, .bool (decide (0 ≤ (pairI (vioB l) l.length).1))]) ∧ Below w.heap.size w w' := by
  have HR := Lib.hid hr
  obtain ⟨a, cap, rfl, -⟩ := hr
  have HEQ := Lib.hid (fun a b (h : PairIs (vioB l) l.length a b) => pairI_eq h)
  have HSS := Lib.hid hS
  clear hS
  go_enter Tryz.func83, Tryz.ntmps83
  go_wp2_with fail
  go_loopw [10] (fun iv wr => ∃ i : Nat, i ≤ l.length ∧ iv = .int .i64 (i : Int) ∧ Hid (∀ i' k', i' < i → i' < k' → k' < l.length → vioB l i' k' = false) ∧ Below w.heap.size w wr) (fun iv _ => l.length - (intOf iv).toNat)
  case atStart => exact ⟨0, by omega, rfl, Lib.hid (fun i' k' h => absurd h (Nat.not_lt_zero _)), Below.refl _ _⟩
  case round =>
    obtain ⟨i, hi, rfl, HNO, hb⟩ := hrel
    obtain ⟨w1, hw1⟩ : ∃ w', w' = wr := ⟨_, rfl⟩
    rw [← hw1] at hb ⊢
    clear hw1
    by_cases hlt : i < l.length
    · have z0 : (0 : Int) ≤ (i : Int) := by omega
      have z1 : (i : Int) < (l.length : Int) := by omega
      obtain ⟨b, o, s0, s1, s2, s3, s4, s5, rfl, hs, hc⟩ := ReadSd.at (HR.out.kept hb) hlt (HSS.out i hlt)
      have HSI := Lib.hid hs
      obtain ⟨c0, c1, c2, c3, c4, c5⟩ := hc
      have hw2 := (Below.refl w1.heap.size w1).alloc (Nat.le_refl _) (.cells #[.int .i64 s0, .int .i64 s1, .int .i64 s2, .int .i64 s3, .int .i64 s4, .int .i64 s5] 123)
      have hbx := Box6.new w1 123 s0 s1 s2 s3 s4 s5
      have hws := hb.size
      have hbb := hb.trans (hw2.mono hb.size)
      have hlt1 : w1.heap.size < (w1.alloc (.cells #[.int .i64 s0, .int .i64 s1, .int .i64 s2, .int .i64 s3, .int .i64 s4, .int .i64 s5] 123)).heap.size := by simp
      have z3 : IntKind.i64.wrap ((i : Int) + 1) = (i : Int) + 1 := IntWalk.i64_in _ (by omega)
      clear hs hw2 hb
      go_wp2_with fail
      clear c0 c1 c2 c3 c4 c5
      go_loopw [7] (fun kv wr => ∃ k : Nat, i < k ∧ k ≤ l.length ∧ kv = .int .i64 (k : Int) ∧ Hid (∀ k', i < k' → k' < k → vioB l i k' = false) ∧ Box6 wr w1.heap.size s0 s1 s2 s3 s4 s5 ∧ w1.heap.size < wr.heap.size ∧ Below w.heap.size w wr) (fun kv _ => l.length - (intOf kv).toNat)
      case atStart => exact ⟨i + 1, by omega, by omega, by go_num, Lib.hid (fun k' h1 h2 => by omega), hbx, hlt1, hbb⟩
      case round =>
        clear hbx hlt1 hbb
        obtain ⟨k, hik, hk, rfl, HNK, hbx, hlw, hb⟩ := hrel
        obtain ⟨w2, hw2⟩ : ∃ w', w' = wr := ⟨_, rfl⟩
        rw [← hw2] at hbx hlw hb ⊢
        clear hw2
        by_cases hlk : k < l.length
        · have z4 : (0 : Int) ≤ (k : Int) := by omega
          have z5 : (k : Int) < (l.length : Int) := by omega
          obtain ⟨b', o', t0, t1, t2, t3, t4, t5, hbo, ht, hc⟩ := ReadSd.at (HR.out.kept hb) hlk (HSS.out k hlk)
          cases hbo
          obtain ⟨c0, c1, c2, c3, c4, c5⟩ := hc
          have HV := Lib.hid (fun w' => violate_any (l.getD i []) (l.getD k []) w' (HSS.out i hlt) (HSS.out k hlk))
          have HVB : Hid (vioB l i k = (decide ((l.getD i []).take 5 = (l.getD k []).take 5) && !decide (l.getD i [] = l.getD k []))) := Lib.hid rfl
          obtain ⟨q, hq⟩ : ∃ q, q = vioB l i k := ⟨_, rfl⟩
          rw [← HVB.out, ← hq, HSI.out, ht, sidV_six, sidV_six] at HV
          have HQ := Lib.hid hq
          have HB := Lib.hid hb
          have HBX := Lib.hid hbx
          obtain ⟨d0, d1, d2, d3, d4, d5⟩ := hbx
          clear hq ht hb HVB
          cases q with
          | false =>
            go_wp2_with fail
            go_region_law (go_simp; go_at_call 108; refine (HV.out w2.drew).mono ?_; rintro e w3 ⟨rfl, b3⟩)
            all_goals
              replace b3 : Below w2.heap.size w2 w3 := (Below.refl w2.heap.size w2).drew.trans b3
              have hb3 := HB.out.trans (b3.mono HB.out.size)
              have hbx3 := HBX.out.kept b3 hlw
              have hs3 := b3.size
              clear b3 c0 c1 c2 c3 c4 c5 d0 d1 d2 d3 d4 d5
              go_wp2_with fail
              go_roundw
              case rel => exact ⟨k + 1, by omega, by omega, by go_num, Lib.hid (fun k' g1 g2 => by
                by_cases e : k' = k
                · rw [e]; exact HQ.out.symm
                · exact HNK.out k' g1 (by omega)), hbx3, by omega, hb3⟩
              case measure => simp [intOf]; omega
          | true =>
            have HP := Lib.hid (HEQ.out (i : Int) (k : Int) (.inr ⟨i, k, rfl, rfl, hik, hlk, HQ.out.symm, HNO.out, HNK.out⟩))
            go_wp2_with fail
            go_region_law (go_simp; go_at_call 108; refine (HV.out w2.drew).mono ?_; rintro e w3 ⟨rfl, b3⟩)
            all_goals
              replace b3 : Below w2.heap.size w2 w3 := (Below.refl w2.heap.size w2).drew.trans b3
              have hb3 := HB.out.trans (b3.mono HB.out.size)
              clear b3 c0 c1 c2 c3 c4 c5 d0 d1 d2 d3 d4 d5
              go_wp2_with fail
              go_ret3
              exact ⟨by rw [HP.out]; simp only [decide_eq_true (show (0 : Int) ≤ (i : Int) by omega)]; rfl, hb3⟩
        · obtain rfl : k = l.length := by omega
          go_wp2_with fail
          go_roundw
          case rel => exact ⟨i + 1, by omega, by go_num, Lib.hid (fun i' k' g1 g2 g3 => by
            by_cases e : i' = i
            · rw [e] at g2 ⊢; exact HNK.out k' g2 g3
            · exact HNO.out i' k' (by omega) g2 g3), hb⟩
          case measure => simp [intOf]; omega
    · obtain rfl : i = l.length := by omega
      have HP := Lib.hid (HEQ.out (-1) (-1) (.inl ⟨rfl, rfl, fun i k g1 g2 => HNO.out i k (by omega) g1 g2⟩))
      go_wp2_with fail
      go_ret3
      exact ⟨by rw [HP.out]; rfl, hb⟩
end Go.Proofs.YtnbjcelfdppkcadGreat
namespace Go.Proofs.YtnbjcelfdppkcadGreat
open Go.RowKit

/-- A cell that is not equal to itself becomes one that no other row has. -/
def tapC (m : Int) (i : Nat) (x : Int) : Int := if eqC m x x = true then x else -2 - (i : Int)
def tapR (m : Int) (i : Nat) (r : List Int) : List Int := r.map (tapC m i)
theorem tapR_len (m : Int) (i : Nat) (r : List Int) : (tapR m i r).length = r.length := List.length_map _
theorem tapR_get (m : Int) (i : Nat) (r : List Int) (j : Nat) (h : j < r.length) : (tapR m i r).getD j 0 = tapC m i (r.getD j 0) := by
  unfold tapR
  rw [List.getD_eq_getElem?_getD, List.getElem?_map, List.getElem?_eq_getElem h, List.getD_eq_getElem?_getD, List.getElem?_eq_getElem h]; rfl
set_option maxHeartbeats 1600000 in
theorem toldApart0 (v : Value) (r : List Int) (i : Nat) (w : World) (hr : ReadI w v r) (h5 : r.length ≤ 5) (hi : i ≤ 1048576) :
    Calls Tryz.prog 106 #[eqFn 0, v, .int .i64 (i : Int)] w (RetI (tapR 0 i r) w) := by
  obtain ⟨i0, hi0, hz0, hz1, hz2⟩ := info_parts info3i
  have HI : Hid (_ ∧ _ ∧ _ ∧ _) := Lib.hid ⟨hi0, hz0, hz1, hz2⟩
  clear hi0 hz0 hz1 hz2
  obtain ⟨a, cap, rfl, ha⟩ := hr
  have HA := Lib.hid ha
  clear ha
  rw [eqFn_0]
  have HQ0 := Lib.hid eqFun0_any
  have hi1 : IntKind.i64.wrap (-2 - (i : Int)) = -2 - (i : Int) := IntWalk.i64_in _ (by omega)
  go_enter Tryz.func106, Tryz.ntmps106
  go_wp2_with (at_make; refine wpList_make_own _ rfl _ _ 40 rfl w.heap.size 3 i0 (.int .i64 0) 1 Tryz.underlying40 HI.out.1 HI.out.2.1 HI.out.2.2.1 .i64 .i64 _ r.length rfl rfl rfl (by rw [HI.out.2.2.2]; omega) (by unfold maxLen; omega) (Nat.le_refl _) ?_; intro w0 hown0 hgrow0)
  have hb0 := (Below.refl w.heap.size w).grown hgrow0 (Nat.le_refl _) (by simp)
  have hown := OwnI.made hown0
  clear hown0 hgrow0
  go_loopw [7, 15] (fun ov iv wr => ∃ (k : Nat) (l : List Int), k ≤ r.length ∧ iv = .int .i64 (k : Int) ∧ Hid (l = (r.take k).map (tapC 0 i)) ∧ OwnI wr w.heap.size ov l ∧ Below w.heap.size w wr) (fun _ iv _ => r.length - (intOf iv).toNat)
  case atStart => exact ⟨0, [], by omega, rfl, Lib.hid rfl, hown, hb0⟩
  case round =>
    clear hown hb0
    obtain ⟨k, l, hk, rfl, hl, ho, hb⟩ := hrel
    by_cases hlt : k < r.length
    · have hll : l.length ≤ 5 := by rw [hl.out, List.length_map, List.length_take]; omega
      obtain ⟨x, rfl, hx⟩ := HA.out k hlt
      rw [get_getD r k hlt] at hx
      have HS := Lib.hid (map_take_succ r (tapC 0 i) 0 k hlt)
      replace hx := (hb.cell (World.block_lt_of_cell? w _ hx)).trans hx
      obtain ⟨y, hy⟩ : ∃ y, y = r.getD k 0 := ⟨_, rfl⟩
      rw [← hy] at hx HS
      clear hy
      have z0 : (0 : Int) ≤ (k : Int) := by omega
      have z1 : (k : Int) < (r.length : Int) := by omega
      have HQ := Lib.hid (HQ0.out y y)
      cases he : eqC 0 y y with
      | true =>
        have HT : Hid (tapC 0 i y = y) := Lib.hid (by unfold tapC; rw [he]; rfl)
        rw [he] at HQ
        rw [HT.out] at HS
        clear he
        go_wp2_with (first | (go_at_call 103; refine (HQ.out _).mono ?_; rintro e w' ⟨rfl, rfl⟩) | (at_builtin; refine wpList_append_own _ rfl _ _ 40 rfl w.heap.size 3 i0 (.int .i64 0) 1 8 Tryz.underlying40 HI.out.1 HI.out.2.1 HI.out.2.2.1 HI.out.2.2.2 rfl (by decide) _ _ _ rfl (World.ownsRow.alloc ho _) ⟨wr.heap.size, 0, none⟩ 1 1 [.int .i64 y] rfl rfl (cell_one_new _ _ _) (one_i64 _) (by unfold maxLen; omega) (by omega) (le_alloc hb (Nat.le_refl _) _) ?_; intro v' w1 hown' hgrow _))
        have ho' := OwnI.snoc hown'
        have hb' := (hb.alloc hb.size (.cells #[.int .i64 y] 3)).grown hgrow (by simp; have := hb.size; omega) (fun k hk => (OwnI.lt ho k hk).1)
        clear hown' hgrow
        go_wp2_with fail
        go_roundw
        case rel => exact ⟨k + 1, _, by omega, by go_num, Lib.hid (by rw [HS.out, hl.out]), ho', hb'⟩
        case measure => simp [intOf]; omega
      | false =>
        have HT : Hid (tapC 0 i y = -2 - (i : Int)) := Lib.hid (by unfold tapC; rw [he]; rfl)
        rw [he] at HQ
        rw [HT.out] at HS
        clear he
        go_wp2_with (first | (go_at_call 103; refine (HQ.out _).mono ?_; rintro e w' ⟨rfl, rfl⟩) | (at_builtin; refine wpList_append_own _ rfl _ _ 40 rfl w.heap.size 3 i0 (.int .i64 0) 1 8 Tryz.underlying40 HI.out.1 HI.out.2.1 HI.out.2.2.1 HI.out.2.2.2 rfl (by decide) _ _ _ rfl (World.ownsRow.alloc ho _) ⟨wr.heap.size, 0, none⟩ 1 1 [.int .i64 (-2 - (i : Int))] rfl rfl (cell_one_new _ _ _) (one_i64 _) (by unfold maxLen; omega) (by omega) (le_alloc hb (Nat.le_refl _) _) ?_; intro v' w1 hown' hgrow _))
        have ho' := OwnI.snoc hown'
        have hb' := (hb.alloc hb.size (.cells #[.int .i64 (-2 - (i : Int))] 3)).grown hgrow (by simp; have := hb.size; omega) (fun k hk => (OwnI.lt ho k hk).1)
        clear hown' hgrow
        go_wp2_with fail
        go_roundw
        case rel => exact ⟨k + 1, _, by omega, by go_num, Lib.hid (by rw [HS.out, hl.out]), ho', hb'⟩
        case measure => simp [intOf]; omega
    · obtain rfl : k = r.length := by omega
      go_wp2_with fail
      go_ret
      exact ⟨_, rfl, by have := hl.out; rw [List.take_length] at this; unfold tapR; rw [← this]; exact ho, hb⟩
set_option maxHeartbeats 1600000 in
theorem toldApart1 (v : Value) (r : List Int) (i : Nat) (w : World) (hr : ReadI w v r) (h5 : r.length ≤ 5) (hi : i ≤ 1048576) :
    Calls Tryz.prog 106 #[eqFn 1, v, .int .i64 (i : Int)] w (RetI (tapR 1 i r) w) := by
  obtain ⟨i0, hi0, hz0, hz1, hz2⟩ := info_parts info3i
  have HI : Hid (_ ∧ _ ∧ _ ∧ _) := Lib.hid ⟨hi0, hz0, hz1, hz2⟩
  clear hi0 hz0 hz1 hz2
  obtain ⟨a, cap, rfl, ha⟩ := hr
  have HA := Lib.hid ha
  clear ha
  rw [eqFn_1]
  have HQ0 := Lib.hid eqFun1_any
  have hi1 : IntKind.i64.wrap (-2 - (i : Int)) = -2 - (i : Int) := IntWalk.i64_in _ (by omega)
  go_enter Tryz.func106, Tryz.ntmps106
  go_wp2_with (at_make; refine wpList_make_own _ rfl _ _ 40 rfl w.heap.size 3 i0 (.int .i64 0) 1 Tryz.underlying40 HI.out.1 HI.out.2.1 HI.out.2.2.1 .i64 .i64 _ r.length rfl rfl rfl (by rw [HI.out.2.2.2]; omega) (by unfold maxLen; omega) (Nat.le_refl _) ?_; intro w0 hown0 hgrow0)
  have hb0 := (Below.refl w.heap.size w).grown hgrow0 (Nat.le_refl _) (by simp)
  have hown := OwnI.made hown0
  clear hown0 hgrow0
  go_loopw [7, 15] (fun ov iv wr => ∃ (k : Nat) (l : List Int), k ≤ r.length ∧ iv = .int .i64 (k : Int) ∧ Hid (l = (r.take k).map (tapC 1 i)) ∧ OwnI wr w.heap.size ov l ∧ Below w.heap.size w wr) (fun _ iv _ => r.length - (intOf iv).toNat)
  case atStart => exact ⟨0, [], by omega, rfl, Lib.hid rfl, hown, hb0⟩
  case round =>
    clear hown hb0
    obtain ⟨k, l, hk, rfl, hl, ho, hb⟩ := hrel
    by_cases hlt : k < r.length
    · have hll : l.length ≤ 5 := by rw [hl.out, List.length_map, List.length_take]; omega
      obtain ⟨x, rfl, hx⟩ := HA.out k hlt
      rw [get_getD r k hlt] at hx
      have HS := Lib.hid (map_take_succ r (tapC 1 i) 0 k hlt)
      replace hx := (hb.cell (World.block_lt_of_cell? w _ hx)).trans hx
      obtain ⟨y, hy⟩ : ∃ y, y = r.getD k 0 := ⟨_, rfl⟩
      rw [← hy] at hx HS
      clear hy
      have z0 : (0 : Int) ≤ (k : Int) := by omega
      have z1 : (k : Int) < (r.length : Int) := by omega
      have HQ := Lib.hid (HQ0.out y y)
      cases he : eqC 1 y y with
      | true =>
        have HT : Hid (tapC 1 i y = y) := Lib.hid (by unfold tapC; rw [he]; rfl)
        rw [he] at HQ
        rw [HT.out] at HS
        clear he
        go_wp2_with (first | (go_at_call 104; refine (HQ.out _).mono ?_; rintro e w' ⟨rfl, rfl⟩) | (at_builtin; refine wpList_append_own _ rfl _ _ 40 rfl w.heap.size 3 i0 (.int .i64 0) 1 8 Tryz.underlying40 HI.out.1 HI.out.2.1 HI.out.2.2.1 HI.out.2.2.2 rfl (by decide) _ _ _ rfl (World.ownsRow.alloc ho _) ⟨wr.heap.size, 0, none⟩ 1 1 [.int .i64 y] rfl rfl (cell_one_new _ _ _) (one_i64 _) (by unfold maxLen; omega) (by omega) (le_alloc hb (Nat.le_refl _) _) ?_; intro v' w1 hown' hgrow _))
        have ho' := OwnI.snoc hown'
        have hb' := (hb.alloc hb.size (.cells #[.int .i64 y] 3)).grown hgrow (by simp; have := hb.size; omega) (fun k hk => (OwnI.lt ho k hk).1)
        clear hown' hgrow
        go_wp2_with fail
        go_roundw
        case rel => exact ⟨k + 1, _, by omega, by go_num, Lib.hid (by rw [HS.out, hl.out]), ho', hb'⟩
        case measure => simp [intOf]; omega
      | false =>
        have HT : Hid (tapC 1 i y = -2 - (i : Int)) := Lib.hid (by unfold tapC; rw [he]; rfl)
        rw [he] at HQ
        rw [HT.out] at HS
        clear he
        go_wp2_with (first | (go_at_call 104; refine (HQ.out _).mono ?_; rintro e w' ⟨rfl, rfl⟩) | (at_builtin; refine wpList_append_own _ rfl _ _ 40 rfl w.heap.size 3 i0 (.int .i64 0) 1 8 Tryz.underlying40 HI.out.1 HI.out.2.1 HI.out.2.2.1 HI.out.2.2.2 rfl (by decide) _ _ _ rfl (World.ownsRow.alloc ho _) ⟨wr.heap.size, 0, none⟩ 1 1 [.int .i64 (-2 - (i : Int))] rfl rfl (cell_one_new _ _ _) (one_i64 _) (by unfold maxLen; omega) (by omega) (le_alloc hb (Nat.le_refl _) _) ?_; intro v' w1 hown' hgrow _))
        have ho' := OwnI.snoc hown'
        have hb' := (hb.alloc hb.size (.cells #[.int .i64 (-2 - (i : Int))] 3)).grown hgrow (by simp; have := hb.size; omega) (fun k hk => (OwnI.lt ho k hk).1)
        clear hown' hgrow
        go_wp2_with fail
        go_roundw
        case rel => exact ⟨k + 1, _, by omega, by go_num, Lib.hid (by rw [HS.out, hl.out]), ho', hb'⟩
        case measure => simp [intOf]; omega
    · obtain rfl : k = r.length := by omega
      go_wp2_with fail
      go_ret
      exact ⟨_, rfl, by have := hl.out; rw [List.take_length] at this; unfold tapR; rw [← this]; exact ho, hb⟩
theorem toldApart_any (m : Int) (hm : m = 0 ∨ m = 1) (v : Value) (r : List Int) (i : Nat) (w : World) (hr : ReadI w v r) (h5 : r.length ≤ 5) (hi : i ≤ 1048576) :
    Calls Tryz.prog 106 #[eqFn m, v, .int .i64 (i : Int)] w (RetI (tapR m i r) w) := by
  rcases hm with rfl | rfl
  · exact toldApart0 v r i w hr h5 hi
  · exact toldApart1 v r i w hr h5 hi
end Go.Proofs.YtnbjcelfdppkcadGreat
namespace Go.Proofs.YtnbjcelfdppkcadGreat

theorem mem_mems {S : Nat} (hS : S < 32) {x : Int} : x ∈ mems (S : Int) ↔ ∃ j : Nat, j < 5 ∧ bitB S j = true ∧ x = (j : Int) := by
  unfold mems
  rw [if_pos (by omega), show ((S : Int)).toNat = S by omega]
  unfold memN
  rw [List.mem_map]
  constructor
  · rintro ⟨j, hj, rfl⟩
    rw [List.mem_filter, List.mem_range] at hj
    exact ⟨j, hj.1, hj.2, rfl⟩
  · rintro ⟨j, h1, h2, rfl⟩
    exact ⟨j, by rw [List.mem_filter, List.mem_range]; exact ⟨h1, h2⟩, rfl⟩
theorem bit_low : ∀ (c : Fin 6) (S : Fin 32) (j : Fin 5), S.val < 2 ^ c.val → bitB S.val j.val = true → j.val < c.val := by decide +kernel
theorem pad5_inj {r s : List Int} (h : r.length = s.length) (h5 : r.length ≤ 5) (he : pad5 r = pad5 s) : r = s := by
  apply List.ext_getElem h
  intro i h1 h2
  have e1 := pad5_get r i (by rw [pad5_len]; omega)
  have e2 := pad5_get s i (by rw [pad5_len]; omega)
  have e3 : (pad5 r)[i]'(by rw [pad5_len]; omega) = (pad5 s)[i]'(by rw [pad5_len]; omega) := by simp only [he]
  rw [e1, e2, ← get_getD r i h1, ← get_getD s i h2] at e3
  exact e3
/-- The record of the columns S of row i. -/
def recC (ll : List (List Int)) (S i : Nat) : List Int := (mems (S : Int)).map fun k => (ll.getD i []).getD k.toNat 0
/-- The key of a row: its record, if it is equal to itself. -/
def keyT (c : Nat) (ll : List (List Int)) (m : Int) (S i : Nat) : Option (List Int) := if agB c ll m (S : Int) i i = true then some (pad5 (recC ll S i)) else none
theorem rec_eq {ll : List (List Int)} {S i k : Nat} (hS : S < 32) : pad5 (recC ll S i) = pad5 (recC ll S k) ↔ ∀ j, j < 5 → bitB S j = true → (ll.getD i []).getD j 0 = (ll.getD k []).getD j 0 := by
  constructor
  · intro h j hj hb
    have h1 := pad5_inj (by simp [recC]) (by unfold recC; rw [List.length_map]; exact mems_len _) h
    unfold recC at h1
    have := List.map_inj_left.1 h1 (j : Int) ((mem_mems hS).2 ⟨j, hj, hb, rfl⟩)
    rw [show ((j : Int)).toNat = j by omega] at this
    exact this
  · intro h
    congr 1
    unfold recC
    apply List.map_congr_left
    intro x hx
    obtain ⟨j, h1, h2, rfl⟩ := (mem_mems hS).1 hx
    rw [show ((j : Int)).toNat = j by omega]
    exact h j h1 h2
theorem pow_lt32 {c S : Nat} (hc : c ≤ 5) (hS : S < 2 ^ c) : S < 32 := by
  have : 2 ^ c ≤ 32 := by
    rcases (show c = 0 ∨ c = 1 ∨ c = 2 ∨ c = 3 ∨ c = 4 ∨ c = 5 by omega) with rfl | rfl | rfl | rfl | rfl | rfl <;> decide
  omega
theorem eqC_of {m a b : Int} (h : eqC m a a = true) (he : a = b) : eqC m a b = true := by subst he; exact h
theorem eqC_val {m a b : Int} (h : eqC m a b = true) : a = b := by
  unfold eqC at h; simp only [decide_eq_true_eq] at h; exact h.2.1
/-- Two rows have one key if they agree. -/
theorem key_agree {c : Nat} {ll : List (List Int)} {m : Int} {S a b : Nat} {r : List Int} (hc : c ≤ 5) (hS : S < 2 ^ c) (hk : keyT c ll m S a = some r) : keyT c ll m S b = some r ↔ agB c ll m (S : Int) a b = true := by
  have h32 := pow_lt32 hc hS
  unfold keyT at *
  split at hk
  · next ha =>
    have hk' := (Option.some.inj hk).symm
    subst hk'
    have ha' := (agB_iff c ll m S a a hc hS).1 ha
    constructor
    · intro hb
      split at hb
      · have he := (rec_eq h32).1 (Option.some.inj hb)
        rw [agB_iff c ll m S _ _ hc hS]
        intro j hj hbit
        exact eqC_of (ha' j hj hbit) (he j (by omega) hbit).symm
      · cases hb
    · intro hab
      have hbb := agB_trans hc hS (agB_symm hc hS hab) hab
      rw [if_pos hbb]
      congr 1
      refine (rec_eq h32).2 fun j hj hbit => ?_
      have hjc := bit_low ⟨c, by omega⟩ ⟨S, h32⟩ ⟨j, hj⟩ hS hbit
      exact (eqC_val ((agB_iff c ll m S a b hc hS).1 hab j hjc hbit)).symm
  · cases hk
theorem pad5_r5 {r : List Int} (h : ∀ x ∈ r, -1 ≤ x ∧ x ≤ 40) : R5 (pad5 r) := by
  refine ⟨pad5_len r, fun j hj => ?_⟩
  rw [← get_getD (pad5 r) j (by rw [pad5_len]; exact hj), pad5_get]
  refine Go.WalkArith.wf_i64 ?_
  by_cases hjl : j < r.length
  · have := h (r.getD j 0) (by rw [← get_getD r j hjl]; exact List.getElem_mem _)
    omega
  · rw [getD_end r j (by omega)]; omega
theorem recC_bd {c : Int} {ll : List (List Int)} {S i : Nat} (hT : isT c ll = true) (hS : S < 2 ^ c.toNat) (hi : i < ll.length) : ∀ x ∈ recC ll S i, -1 ≤ x ∧ x ≤ 40 := by
  obtain ⟨c1, c5, -⟩ := isT_bd hT
  intro x hx
  unfold recC at hx
  obtain ⟨k, hk, rfl⟩ := List.mem_map.1 hx
  obtain ⟨j, h1, h2, rfl⟩ := (mem_mems (pow_lt32 (by omega) hS)).1 hk
  obtain ⟨hl, hb⟩ := isT_row hT hi
  have hjc := bit_low ⟨c.toNat, by omega⟩ ⟨S, pow_lt32 (by omega) hS⟩ ⟨j, h1⟩ hS h2
  simp only at hjc
  rw [show ((j : Int)).toNat = j by omega]
  exact hb _ (by rw [← get_getD _ j (by omega)]; exact List.getElem_mem _)
theorem mems_in {c : Int} {ll : List (List Int)} {S i : Nat} (hT : isT c ll = true) (hS : S < 2 ^ c.toNat) (hi : i < ll.length) : ∀ x ∈ mems (S : Int), 0 ≤ x ∧ x < ((ll.getD i []).length : Int) := by
  obtain ⟨c1, c5, -⟩ := isT_bd hT
  intro x hx
  obtain ⟨j, h1, h2, rfl⟩ := (mem_mems (pow_lt32 (by omega) hS)).1 hx
  obtain ⟨hl, -⟩ := isT_row hT hi
  have hjc := bit_low ⟨c.toNat, by omega⟩ ⟨S, pow_lt32 (by omega) hS⟩ ⟨j, h1⟩ hS h2
  simp only at hjc
  omega
end Go.Proofs.YtnbjcelfdppkcadGreat
namespace Go.Proofs.YtnbjcelfdppkcadGreat
section
variable {α β : Type} [DecidableEq α] [DecidableEq β]
theorem perm_mem {a b : List α} (ha : a.Nodup) (hb : b.Nodup) (h : ∀ x, x ∈ a ↔ x ∈ b) : a.Perm b :=
  List.perm_iff_count.2 fun x => by
    by_cases hx : x ∈ a
    · rw [List.Nodup.count ha, List.Nodup.count hb, if_pos hx, if_pos ((h x).1 hx)]
    · rw [List.Nodup.count ha, List.Nodup.count hb, if_neg hx, if_neg (fun e => hx ((h x).2 e))]
theorem perm_sumN {a b : List Nat} (h : a.Perm b) : a.sum = b.sum := by
  induction h with
  | nil => rfl
  | cons x _ ih => simp [ih]
  | swap x y l => simp; omega
  | trans _ _ h1 h2 => rw [h1, h2]
theorem sum_split {γ : Type} (l : List γ) (f g : γ → Nat) : (l.map fun x => f x + g x).sum = (l.map f).sum + (l.map g).sum := by
  induction l with
  | nil => rfl
  | cons a t ih => simp only [List.map_cons, List.sum_cons, ih]; omega
theorem sum_none (k : α) : ∀ rs : List α, k ∉ rs → (rs.map fun r => if k = r then 1 else 0).sum = 0
  | [], _ => rfl
  | r :: t, h => by
    rw [List.map_cons, List.sum_cons, sum_none k t (fun e => h (List.mem_cons_of_mem _ e)), if_neg (fun e => h (by rw [e]; exact List.mem_cons_self))]
theorem sum_one (k : α) : ∀ rs : List α, rs.Nodup → k ∈ rs → (rs.map fun r => if k = r then 1 else 0).sum = 1
  | [], _, h => by cases h
  | r :: t, hn, h => by
    obtain ⟨h1, h2⟩ := List.nodup_cons.1 hn
    rw [List.map_cons, List.sum_cons]
    by_cases e : k = r
    · subst e
      rw [if_pos rfl, sum_none k t h1]
    · rw [if_neg e, sum_one k t h2 (by rcases List.mem_cons.1 h with h | h; exact absurd h e; exact h)]
omit [DecidableEq β] in
theorem sum_groups (K : β → α) {rs : List α} (hn : rs.Nodup) : ∀ l : List β, (∀ x ∈ l, K x ∈ rs) → (rs.map fun r => (l.filter fun x => decide (K x = r)).length).sum = l.length
  | [], _ => by
    have : ∀ rs : List α, (rs.map fun _ => 0).sum = 0 := fun rs => by induction rs with
      | nil => rfl
      | cons a t ih => simp [ih]
    simpa using this rs
  | x :: t, h => by
    have ih := sum_groups K hn t (fun y hy => h y (List.mem_cons_of_mem _ hy))
    have e : (fun r => ((x :: t).filter fun x => decide (K x = r)).length) = fun r => (if K x = r then 1 else 0) + (t.filter fun x => decide (K x = r)).length := by
      funext r
      by_cases hr : K x = r
      · rw [List.filter_cons_of_pos (by simpa using hr), if_pos hr, List.length_cons]; omega
      · rw [List.filter_cons_of_neg (by simpa using hr), if_neg hr]; omega
    rw [e, sum_split, ih, sum_one (K x) rs hn (h x List.mem_cons_self), List.length_cons]; omega
/-- How often a key is there among the first n. -/
def cntK (K : Nat → α) (n : Nat) (r : α) : Nat := ((List.range n).filter fun i => decide (K i = r)).length
theorem cntK_succ (K : Nat → α) (n : Nat) (r : α) : cntK K (n + 1) r = if r = K n then cntK K n r + 1 else cntK K n r := by
  unfold cntK
  rw [List.range_succ, List.filter_append, List.length_append]
  by_cases h : r = K n
  · rw [if_pos h, List.filter_cons_of_pos (by simpa using h.symm)]; rfl
  · rw [if_neg h, List.filter_cons_of_neg (by simpa using fun e => h e.symm)]; rfl
theorem cntK_le (K : Nat → α) (n : Nat) (r : α) : cntK K n r ≤ n := by
  have := List.length_filter_le (fun i => decide (K i = r)) (List.range n)
  rw [List.length_range] at this
  exact this
theorem cntK_mono (K : Nat → α) (r : α) (n : Nat) : ∀ d, cntK K n r ≤ cntK K (n + d) r
  | 0 => Nat.le_refl _
  | d + 1 => by
    have h := cntK_mono K r n d
    rw [show n + (d + 1) = n + d + 1 by omega, cntK_succ]
    split <;> omega
theorem cntK_pos {K : Nat → α} {n i : Nat} (h : i < n) : 1 ≤ cntK K n (K i) := by
  have : i ∈ (List.range n).filter fun j => decide (K j = K i) := List.mem_filter.2 ⟨List.mem_range.2 h, by simp⟩
  exact List.length_pos_of_mem this
/-- How often the most frequent one is there, for each key. -/
def stayK (K : Nat → α) (S : Nat → β) : Nat → α → Nat
  | 0, _ => 0
  | n + 1, r => if r = K n then max (stayK K S n r) (cntK S (n + 1) (S n)) else stayK K S n r
theorem stayK_ge (K : Nat → α) (S : Nat → β) (hKS : ∀ i j, S i = S j → K i = K j) : ∀ n j, j < n → cntK S n (S j) ≤ stayK K S n (K j)
  | 0, j, h => absurd h (Nat.not_lt_zero _)
  | n + 1, j, h => by
    show _ ≤ if K j = K n then max (stayK K S n (K j)) (cntK S (n + 1) (S n)) else stayK K S n (K j)
    by_cases hs : S j = S n
    · rw [if_pos (hKS j n hs), hs]; omega
    · have hjn : j < n := by
        rcases Nat.lt_or_ge j n with h' | h'
        · exact h'
        · exact absurd (congrArg S (show j = n by omega)) hs
      have ih := stayK_ge K S hKS n j hjn
      rw [cntK_succ, if_neg hs]
      split <;> omega
theorem stayK_is (K : Nat → α) (S : Nat → β) (r : α) : ∀ n, stayK K S n r = 0 ∨ ∃ j, j < n ∧ K j = r ∧ stayK K S n r ≤ cntK S n (S j)
  | 0 => .inl rfl
  | n + 1 => by
    by_cases hr : r = K n
    · refine .inr ?_
      have hd : stayK K S (n + 1) r = max (stayK K S n r) (cntK S (n + 1) (S n)) := if_pos hr
      by_cases hm : stayK K S n r ≤ cntK S (n + 1) (S n)
      · exact ⟨n, by omega, hr.symm, by rw [hd]; omega⟩
      · rcases stayK_is K S r n with h0 | ⟨j, hj, hk, hle⟩
        · omega
        · have := cntK_mono S (S j) n 1
          exact ⟨j, by omega, hk, by rw [hd]; omega⟩
    · have hd : stayK K S (n + 1) r = stayK K S n r := if_neg hr
      rcases stayK_is K S r n with h0 | ⟨j, hj, hk, hle⟩
      · exact .inl (hd.trans h0)
      · have := cntK_mono S (S j) n 1
        exact .inr ⟨j, by omega, hk, by rw [hd]; omega⟩
theorem stayK_le (K : Nat → α) (S : Nat → β) (r : α) (n : Nat) : stayK K S n r ≤ n := by
  rcases stayK_is K S r n with h | ⟨j, -, -, h⟩
  · omega
  · have := cntK_le S n (S j)
    omega
theorem stayK_has (K : Nat → α) (S : Nat → β) (hKS : ∀ i j, S i = S j → K i = K j) (n : Nat) (r : α) : stayK K S n r ≠ 0 ↔ ∃ i, i < n ∧ K i = r := by
  constructor
  · intro h
    rcases stayK_is K S r n with h0 | ⟨j, hj, hk, -⟩
    · exact absurd h0 h
    · exact ⟨j, hj, hk⟩
  · rintro ⟨i, hi, rfl⟩
    have := stayK_ge K S hKS n i hi
    have := cntK_pos (K := S) hi
    omega
theorem stayK_grp (K : Nat → α) (S : Nat → β) (hKS : ∀ i j, S i = S j → K i = K j) (n : Nat) (r : α) : stayK K S n r ≤ cntK K n r := by
  rcases stayK_is K S r n with h | ⟨j, hj, rfl, h⟩
  · omega
  · refine Nat.le_trans h ?_
    unfold cntK
    rw [← List.countP_eq_length_filter, ← List.countP_eq_length_filter]
    exact List.countP_mono_left fun i _ hi => by
      simp at hi ⊢
      exact hKS _ _ hi
/-- The first rows of their keys. -/
def firstK (K : Nat → α) (n : Nat) : List Nat := (List.range n).filter fun a => !(List.range a).any fun b => decide (K b = K a)
theorem firstK_mem {K : Nat → α} {n a : Nat} : a ∈ firstK K n ↔ a < n ∧ ∀ b, b < a → K b ≠ K a := by
  unfold firstK
  rw [List.mem_filter, List.mem_range]
  refine and_congr_right fun _ => ?_
  rw [Bool.not_eq_true', List.any_eq_false]
  exact ⟨fun h b hb => by have := h b (List.mem_range.2 hb); simpa using this, fun h b hb => by have := h b (List.mem_range.1 hb); simpa using this⟩
theorem firstK_nodup (K : Nat → α) (n : Nat) : ((firstK K n).map K).Nodup := by
  refine List.pairwise_map.2 ?_
  have h := (List.pairwise_lt_range (n := n)).filter (fun a => !(List.range a).any fun b => decide (K b = K a))
  refine h.imp_of_mem fun {a b} ha hb hab => ?_
  exact (firstK_mem.1 hb).2 a hab
theorem firstK_all (K : Nat → α) : ∀ n i, i < n → K i ∈ (firstK K n).map K := by
  intro n i
  induction i using Nat.strongRecOn with
  | _ i ih =>
    intro hi
    by_cases h : ∀ b, b < i → K b ≠ K i
    · exact List.mem_map.2 ⟨i, firstK_mem.2 ⟨hi, h⟩, rfl⟩
    · have ⟨b, hb, he⟩ : ∃ b, b < i ∧ K b = K i := by
        by_cases hx : ∃ b, b < i ∧ K b = K i
        · exact hx
        · exact absurd (fun b hb e => hx ⟨b, hb, e⟩) h
      rw [← he]
      exact ih b hb (by omega)
theorem sum_subN {γ : Type} (l : List γ) (f g : γ → Nat) (h : ∀ x ∈ l, g x ≤ f x) : (l.map f).sum - (l.map g).sum = (l.map fun x => f x - g x).sum ∧ (l.map g).sum ≤ (l.map f).sum := by
  induction l with
  | nil => exact ⟨rfl, Nat.le_refl _⟩
  | cons a t ih =>
    obtain ⟨i1, i2⟩ := ih (fun x hx => h x (List.mem_cons_of_mem _ hx))
    have := h a List.mem_cons_self
    simp only [List.map_cons, List.sum_cons]
    exact ⟨by omega, by omega⟩
theorem sum_filter {γ : Type} (l : List γ) (f : γ → Nat) (p : γ → Bool) (h : ∀ x ∈ l, p x = false → f x = 0) : (l.map f).sum = ((l.filter p).map f).sum := by
  induction l with
  | nil => rfl
  | cons a t ih =>
    have i1 := ih (fun x hx => h x (List.mem_cons_of_mem _ hx))
    cases hp : p a with
    | true => rw [List.filter_cons_of_pos hp]; simp only [List.map_cons, List.sum_cons, i1]
    | false => rw [List.filter_cons_of_neg (by rw [hp]; exact Bool.false_ne_true)]; simp only [List.map_cons, List.sum_cons, i1, h a List.mem_cons_self hp]; omega
/-- What is left of n when the numbers of a list of all keys are taken away. -/
theorem left_sum (K : Nat → α) (S : Nat → β) (hKS : ∀ i j, S i = S j → K i = K j) (n : Nat) {rs : List α} (hn : rs.Nodup) (hm : ∀ x, x ∈ rs ↔ ∃ i, i < n ∧ K i = x) :
    (rs.map (stayK K S n)).sum ≤ n ∧ n - (rs.map (stayK K S n)).sum = (((firstK K n).filter fun a => decide (1 < cntK K n (K a))).map fun a => cntK K n (K a) - stayK K S n (K a)).sum := by
  have hp : rs.Perm ((firstK K n).map K) := perm_mem hn (firstK_nodup K n) fun x => by
    rw [hm]
    constructor
    · rintro ⟨i, hi, rfl⟩; exact firstK_all K n i hi
    · intro hx
      obtain ⟨a, ha, rfl⟩ := List.mem_map.1 hx
      exact ⟨a, (firstK_mem.1 ha).1, rfl⟩
  have h1 := perm_sumN (hp.map (stayK K S n))
  have h2 := perm_sumN (hp.map (cntK K n))
  have h3 := sum_groups K hn (List.range n) (fun i hi => (hm _).2 ⟨i, List.mem_range.1 hi, rfl⟩)
  rw [List.length_range] at h3
  have h3' : (rs.map (cntK K n)).sum = n := h3
  rw [h3', List.map_map] at h2
  rw [h1, List.map_map]
  obtain ⟨h4, h5⟩ := sum_subN (firstK K n) (cntK K n ∘ K) (stayK K S n ∘ K) (fun a _ => stayK_grp K S hKS n (K a))
  rw [← h2] at h4 h5
  refine ⟨h5, h4.trans (sum_filter _ _ _ fun a ha hb => ?_)⟩
  have hc : cntK K n (K a) ≤ 1 := by simpa using hb
  have hl := (firstK_mem.1 ha).1
  have := stayK_ge K S hKS n a hl
  have := cntK_pos (K := S) hl
  show cntK K n (K a) - stayK K S n (K a) = 0
  omega
end
end Go.Proofs.YtnbjcelfdppkcadGreat
