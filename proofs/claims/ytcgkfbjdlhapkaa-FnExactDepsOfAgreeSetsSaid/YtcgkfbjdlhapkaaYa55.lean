/- Texts of this claim, merged: CmpI, RecO, SidL, SidV, SidF, Told, PrtE0, CntK. Conditions: as stated. -/
import Derived.Test.YtcgkfbjdlhapkaaYa54
import Derived.Test.YtcgkfbjdlhapkaaYa26
import Derived.Test.YtcgkfbjdlhapkaaYa2
import Derived.Deep.RegionHeld3
import Derived.RegionTactic
import Derived.Test.YtcgkfbjdlhapkaaYa7
import Derived.Deep.RegionLaw
import Derived.Test.YtcgkfbjdlhapkaaYa17
import Derived.Test.YtcgkfbjdlhapkaaYa12
import Derived.Test.YtcgkfbjdlhapkaaYa6
import Derived.Test.YtcgkfbjdlhapkaaYa11
namespace Go.Proofs.Ytcgkfbjdlhapkaa
open Go.RowKit

def cmpI (x y : Int) : Int := if x < y then -1 else if y < x then 1 else 0
/-- The order of rows as a number. -/
def cmpL : List Int → List Int → Int
  | [], [] => 0
  | [], _ :: _ => -1
  | _ :: _, [] => 1
  | a :: s, b :: t => if cmpI a b = 0 then cmpL s t else cmpI a b
theorem cmpI_zero {x y : Int} : cmpI x y = 0 ↔ x = y := by
  unfold cmpI
  split
  · constructor <;> (intro; omega)
  · split
    · constructor <;> (intro; omega)
    · constructor <;> (intro; omega)
theorem cmpL_less : ∀ (a b : List Int), decide (cmpL a b < 0) = lessR a b
  | [], [] => rfl
  | [], _ :: _ => rfl
  | _ :: _, [] => rfl
  | a :: s, b :: t => by
    unfold cmpL lessR
    by_cases h : a = b
    · rw [if_pos (cmpI_zero.2 h), if_pos h]; exact cmpL_less s t
    · rw [if_neg (fun e => h (cmpI_zero.1 e)), if_neg h]
      unfold cmpI
      by_cases h1 : a < b
      · simp [h1]
      · rw [if_neg h1, if_pos (by omega)]; simp [h1]
theorem cmpL_drop {a b : List Int} {k : Nat} (h1 : k < a.length) (h2 : k < b.length) : cmpL (a.drop k) (b.drop k) = if cmpI a[k] b[k] = 0 then cmpL (a.drop (k + 1)) (b.drop (k + 1)) else cmpI a[k] b[k] := by
  rw [List.drop_eq_getElem_cons h1, List.drop_eq_getElem_cons h2]; rfl

end Go.Proofs.Ytcgkfbjdlhapkaa
namespace Go.Proofs.Ytcgkfbjdlhapkaa
open Go.RowKit

/-- The block b holds the values r, and 0 behind them, in five cells. -/
def RecAt (w : World) (b : Nat) (r : List Int) : Prop := ∀ j, j < 5 → w.cell? ⟨b, j, none⟩ = some (.int .i64 (r.getD j 0)) ∧ w.frozen? ⟨b, j, none⟩ = false
theorem RecAt.kept {w w' : World} {b C : Nat} {r : List Int} (h : RecAt w b r) (hb : Below C w w') (hC : b < C) : RecAt w' b r := fun j hj => ⟨(hb.cell hC).trans (h j hj).1, (hb.frozen hC).trans (h j hj).2⟩
theorem getD_end (l : List Int) (j : Nat) (h : l.length ≤ j) : l.getD j 0 = 0 := by rw [List.getD_eq_getElem?_getD, List.getElem?_eq_none h]; rfl
theorem getD_app (l : List Int) (x : Int) (j : Nat) : (l ++ [x]).getD j 0 = if j = l.length then x else l.getD j 0 := by
  by_cases h : j < l.length + 1
  · rw [getD_snoc _ _ _ _ h]
    by_cases h2 : j = l.length
    · simp [h2]
    · rw [if_pos (by omega), if_neg h2]
  · rw [if_neg (by omega), getD_end l j (by omega), getD_end (l ++ [x]) j (by rw [List.length_append, List.length_singleton]; omega)]
theorem RecAt.store {w : World} {b : Nat} {l : List Int} (h : RecAt w b l) (x : Int) (h5 : l.length < 5) : RecAt (w.setCell ⟨b, l.length, none⟩ (.int .i64 x)) b (l ++ [x]) := by
  intro j hj
  rw [getD_app, World.frozen?_setCell]
  refine ⟨?_, (h j hj).2⟩
  by_cases hjl : j = l.length
  · subst hjl
    rw [if_pos rfl]
    exact World.cell?_setCell_same _ _ _ (h _ h5).1
  · rw [if_neg hjl]
    exact (World.cell?_setCell_other _ _ _ _ (by intro e; simp only [Addr.mk.injEq] at e; omega)).trans (h j hj).1
theorem RecAt.drewN {w : World} {b : Nat} {l : List Int} (h : RecAt w b l) (n : Nat) : RecAt (w.drewN n) b l := fun j hj => h j hj
/-- A record, read as a slice of five ints. -/
def pad5 (r : List Int) : List Int := (List.range 5).map fun j => r.getD j 0
theorem pad5_get (r : List Int) (j : Nat) (h : j < (pad5 r).length) : (pad5 r)[j] = r.getD j 0 := by simp [pad5]
theorem pad5_len (r : List Int) : (pad5 r).length = 5 := by simp [pad5]
theorem RecAt.read {w : World} {b : Nat} {r : List Int} (h : RecAt w b r) : ReadI w (.slice (some ⟨b, 0, none⟩) 5 5) (pad5 r) := by
  refine ⟨some ⟨b, 0, none⟩, 5, by rw [pad5_len], fun i hi => ⟨_, rfl, ?_⟩⟩
  rw [add_zero_off, (h i (by rw [pad5_len] at hi; exact hi)).1, pad5_get]
end Go.Proofs.Ytcgkfbjdlhapkaa
namespace Go.Proofs.Ytcgkfbjdlhapkaa
open Go.RowKit

/-- The six cells of a row's sides. -/
def sidC (s : List Int) : List Value := [.int .i64 (s.getD 0 0), .int .i64 (s.getD 1 0), .int .i64 (s.getD 2 0), .int .i64 (s.getD 3 0), .int .i64 (s.getD 4 0), .int .i64 (s.getD 5 0)]
theorem sidC_get (s : List Int) {j : Nat} (h : j < 6) : (sidC s)[j]? = some (.int .i64 (s.getD j 0)) := by
  rcases (show j = 0 ∨ j = 1 ∨ j = 2 ∨ j = 3 ∨ j = 4 ∨ j = 5 by omega) with rfl | rfl | rfl | rfl | rfl | rfl <;> rfl
def sidsV : List (List Int) → List Value
  | [] => []
  | s :: t => sidC s ++ sidsV t
theorem sidsV_len : ∀ l : List (List Int), (sidsV l).length = l.length * 6
  | [] => rfl
  | s :: t => by simp only [sidsV, List.length_append, List.length_cons, sidsV_len t]; simp [sidC]; omega
theorem sidsV_get : ∀ (l : List (List Int)) (i : Nat), i < l.length → ∀ j, j < 6 → (sidsV l)[i * 6 + j]? = some (.int .i64 ((l.getD i []).getD j 0))
  | [], i, h, _, _ => absurd h (Nat.not_lt_zero _)
  | s :: t, 0, _, j, hj => by
    have : (sidsV (s :: t))[0 * 6 + j]? = (sidC s)[j]? := by
      rw [Nat.zero_mul, Nat.zero_add]
      show (sidC s ++ sidsV t)[j]? = _
      exact List.getElem?_append_left (by simp [sidC]; omega)
    rw [this]
    exact sidC_get s hj
  | s :: t, i + 1, h, j, hj => by
    have ih := sidsV_get t i (by simpa using h) j hj
    have : (sidsV (s :: t))[(i + 1) * 6 + j]? = (sidsV t)[i * 6 + j]? := by
      show (sidC s ++ sidsV t)[(i + 1) * 6 + j]? = _
      rw [List.getElem?_append_right (by simp [sidC]; omega)]
      congr 1
      simp [sidC]; omega
    rw [this, ih]; rfl
theorem sidsV_app (s : List Int) : ∀ l : List (List Int), sidsV (l ++ [s]) = sidsV l ++ sidC s
  | [] => by simp [sidsV]
  | t :: l => by simp only [List.cons_append, sidsV, sidsV_app s l, List.append_assoc]
/-- A slice of sides that can be read. -/
def ReadSd (w : World) (v : Value) (l : List (List Int)) : Prop :=
  ∃ (a : Option Addr) (cap : Nat), v = .slice a l.length cap ∧ ∀ i, i < l.length → ∃ b o, a = some ⟨b, o, none⟩ ∧ ∀ j, j < 6 → w.cell? ⟨b, o + i * 6 + j, none⟩ = some (.int .i64 ((l.getD i []).getD j 0))
theorem ReadSd.kept {w w' : World} {v : Value} {l : List (List Int)} (h : ReadSd w v l) (hb : Below w.heap.size w w') : ReadSd w' v l := by
  obtain ⟨a, cap, hv, hc⟩ := h
  refine ⟨a, cap, hv, fun i hi => ?_⟩
  obtain ⟨b, o, ha, h0⟩ := hc i hi
  exact ⟨b, o, ha, fun j hj => (hb.cell (World.block_lt_of_cell? w _ (h0 j hj))).trans (h0 j hj)⟩
/-- Six cells in a block of their own. -/
def Box6 (w : World) (b : Nat) (a0 a1 a2 a3 a4 a5 : Int) : Prop :=
  w.cell? ⟨b, 0, none⟩ = some (.int .i64 a0) ∧ w.cell? ⟨b, 1, none⟩ = some (.int .i64 a1) ∧ w.cell? ⟨b, 2, none⟩ = some (.int .i64 a2) ∧ w.cell? ⟨b, 3, none⟩ = some (.int .i64 a3) ∧ w.cell? ⟨b, 4, none⟩ = some (.int .i64 a4) ∧ w.cell? ⟨b, 5, none⟩ = some (.int .i64 a5)
theorem Box6.new (w : World) (T : TypeId) (a0 a1 a2 a3 a4 a5 : Int) : Box6 (w.alloc (.cells #[.int .i64 a0, .int .i64 a1, .int .i64 a2, .int .i64 a3, .int .i64 a4, .int .i64 a5] T)) w.heap.size a0 a1 a2 a3 a4 a5 := by
  have h := World.cell?_alloc_mark w #[.int .i64 a0, .int .i64 a1, .int .i64 a2, .int .i64 a3, .int .i64 a4, .int .i64 a5] T (0, 0)
  exact ⟨(h 0).trans rfl, (h 1).trans rfl, (h 2).trans rfl, (h 3).trans rfl, (h 4).trans rfl, (h 5).trans rfl⟩
theorem Box6.kept {w w' : World} {b C : Nat} {a0 a1 a2 a3 a4 a5 : Int} (h : Box6 w b a0 a1 a2 a3 a4 a5) (hb : Below C w w') (hC : b < C) : Box6 w' b a0 a1 a2 a3 a4 a5 :=
  ⟨(hb.cell hC).trans h.1, (hb.cell hC).trans h.2.1, (hb.cell hC).trans h.2.2.1, (hb.cell hC).trans h.2.2.2.1, (hb.cell hC).trans h.2.2.2.2.1, (hb.cell hC).trans h.2.2.2.2.2⟩
end Go.Proofs.Ytcgkfbjdlhapkaa
namespace Go.Proofs.Ytcgkfbjdlhapkaa
open Go.RowKit

theorem take5_get (a : List Int) {j : Nat} (h : j < 5) : (a.take 5).getD j 0 = a.getD j 0 := by
  rw [List.getD_eq_getElem?_getD, List.getD_eq_getElem?_getD, List.getElem?_take, if_pos h]
theorem s6_r5 {a : List Int} (h : S6 a) : R5 (a.take 5) := ⟨by rw [List.length_take, h.1]; rfl, fun j hj => by rw [take5_get a hj]; exact h.2 j (by omega)⟩
theorem take5_rec (a : List Int) : recV (a.take 5) = .agg #[.int .i64 (a.getD 0 0), .int .i64 (a.getD 1 0), .int .i64 (a.getD 2 0), .int .i64 (a.getD 3 0), .int .i64 (a.getD 4 0)] := by
  unfold recV
  rw [take5_get a (by omega), take5_get a (by omega), take5_get a (by omega), take5_get a (by omega), take5_get a (by omega)]
end Go.Proofs.Ytcgkfbjdlhapkaa
namespace Go.Proofs.Ytcgkfbjdlhapkaa
open Go.RowKit

/-- Two rows' sides violate. -/
def vioB (l : List (List Int)) (i k : Nat) : Bool := decide ((l.getD i []).take 5 = (l.getD k []).take 5) && !decide (l.getD i [] = l.getD k [])
theorem cell_on6 {w w' : World} {p : Addr} {v : Value} (h : w.cell? p = some v) (b : Below w.heap.size w w') : w'.cell? p = some v := (b.cell (World.block_lt_of_cell? w _ h)).trans h
def CutSd (w : World) (b : Nat) (o i : Nat) (s0 s1 s2 s3 s4 s5 : Int) : Prop :=
  w.cell? ⟨b, o + i * 6, none⟩ = some (.int .i64 s0) ∧ w.cell? ⟨b, o + i * 6 + 1, none⟩ = some (.int .i64 s1) ∧ w.cell? ⟨b, o + i * 6 + 2, none⟩ = some (.int .i64 s2) ∧ w.cell? ⟨b, o + i * 6 + 3, none⟩ = some (.int .i64 s3) ∧ w.cell? ⟨b, o + i * 6 + 4, none⟩ = some (.int .i64 s4) ∧ w.cell? ⟨b, o + i * 6 + 5, none⟩ = some (.int .i64 s5)
theorem ReadSd.at {w : World} {a : Option Addr} {n cap : Nat} {l : List (List Int)} (h : ReadSd w (.slice a n cap) l) {i : Nat} (hi : i < l.length) (h6 : S6 (l.getD i [])) : ∃ b o s0 s1 s2 s3 s4 s5, a = some ⟨b, o, none⟩ ∧ l.getD i [] = [s0, s1, s2, s3, s4, s5] ∧ CutSd w b o i s0 s1 s2 s3 s4 s5 := by
  obtain ⟨a', cap', hv, hc⟩ := h
  cases hv
  obtain ⟨b, o, ha, h0⟩ := hc i hi
  exact ⟨b, o, _, _, _, _, _, _, ha, s6_list h6, h0 0 (by omega), h0 1 (by omega), h0 2 (by omega), h0 3 (by omega), h0 4 (by omega), h0 5 (by omega)⟩
theorem CutSd.on {w w' : World} {b o i : Nat} {s0 s1 s2 s3 s4 s5 : Int} (h : CutSd w b o i s0 s1 s2 s3 s4 s5) (hb : Below w.heap.size w w') : CutSd w' b o i s0 s1 s2 s3 s4 s5 :=
  ⟨cell_on6 h.1 hb, cell_on6 h.2.1 hb, cell_on6 h.2.2.1 hb, cell_on6 h.2.2.2.1 hb, cell_on6 h.2.2.2.2.1 hb, cell_on6 h.2.2.2.2.2 hb⟩
theorem sidV_six (s0 s1 s2 s3 s4 s5 : Int) : sidV [s0, s1, s2, s3, s4, s5] = .agg #[.int .i64 s0, .int .i64 s1, .int .i64 s2, .int .i64 s3, .int .i64 s4, .int .i64 s5] := rfl
end Go.Proofs.Ytcgkfbjdlhapkaa
namespace Go.Proofs.Ytcgkfbjdlhapkaa
open Go.RowKit

/-- A cell that is not equal to itself becomes one that no other row has. -/
def tapC (m : Int) (i : Nat) (x : Int) : Int := if eqC m x x = true then x else -2 - (i : Int)
def tapR (m : Int) (i : Nat) (r : List Int) : List Int := r.map (tapC m i)
theorem tapR_len (m : Int) (i : Nat) (r : List Int) : (tapR m i r).length = r.length := List.length_map _
theorem tapR_get (m : Int) (i : Nat) (r : List Int) (j : Nat) (h : j < r.length) : (tapR m i r).getD j 0 = tapC m i (r.getD j 0) := by
  unfold tapR
  rw [List.getD_eq_getElem?_getD, List.getElem?_map, List.getElem?_eq_getElem h, List.getD_eq_getElem?_getD, List.getElem?_eq_getElem h]; rfl
end Go.Proofs.Ytcgkfbjdlhapkaa
namespace Go.Proofs.Ytcgkfbjdlhapkaa

theorem mem_mems {S : Nat} (hS : S < 32) {x : Int} : x ∈ mems (S : Int) ↔ ∃ j : Nat, j < 5 ∧ bitB S j = true ∧ x = (j : Int) := by
  unfold mems
  rw [if_pos (by omega), show ((S : Int)).toNat = S by omega]
  unfold memN
  rw [List.mem_map]
  constructor
  · rintro ⟨j, hj, rfl⟩
    rw [List.mem_filter, List.mem_range] at hj
    exact ⟨j, hj.1, hj.2, rfl⟩
  · rintro ⟨j, h1, h2, rfl⟩
    exact ⟨j, by rw [List.mem_filter, List.mem_range]; exact ⟨h1, h2⟩, rfl⟩
theorem bit_low : ∀ (c : Fin 6) (S : Fin 32) (j : Fin 5), S.val < 2 ^ c.val → bitB S.val j.val = true → j.val < c.val := by decide +kernel
theorem pad5_inj {r s : List Int} (h : r.length = s.length) (h5 : r.length ≤ 5) (he : pad5 r = pad5 s) : r = s := by
  apply List.ext_getElem h
  intro i h1 h2
  have e1 := pad5_get r i (by rw [pad5_len]; omega)
  have e2 := pad5_get s i (by rw [pad5_len]; omega)
  have e3 : (pad5 r)[i]'(by rw [pad5_len]; omega) = (pad5 s)[i]'(by rw [pad5_len]; omega) := by simp only [he]
  rw [e1, e2, ← get_getD r i h1, ← get_getD s i h2] at e3
  exact e3
/-- The record of the columns S of row i. -/
def recC (ll : List (List Int)) (S i : Nat) : List Int := (mems (S : Int)).map fun k => (ll.getD i []).getD k.toNat 0
/-- The key of a row: its record, if it is equal to itself. -/
def keyT (c : Nat) (ll : List (List Int)) (m : Int) (S i : Nat) : Option (List Int) := if agB c ll m (S : Int) i i = true then some (pad5 (recC ll S i)) else none
theorem rec_eq {ll : List (List Int)} {S i k : Nat} (hS : S < 32) : pad5 (recC ll S i) = pad5 (recC ll S k) ↔ ∀ j, j < 5 → bitB S j = true → (ll.getD i []).getD j 0 = (ll.getD k []).getD j 0 := by
  constructor
  · intro h j hj hb
    have h1 := pad5_inj (by simp [recC]) (by unfold recC; rw [List.length_map]; exact mems_len _) h
    unfold recC at h1
    have := List.map_inj_left.1 h1 (j : Int) ((mem_mems hS).2 ⟨j, hj, hb, rfl⟩)
    rw [show ((j : Int)).toNat = j by omega] at this
    exact this
  · intro h
    congr 1
    unfold recC
    apply List.map_congr_left
    intro x hx
    obtain ⟨j, h1, h2, rfl⟩ := (mem_mems hS).1 hx
    rw [show ((j : Int)).toNat = j by omega]
    exact h j h1 h2
theorem pow_lt32 {c S : Nat} (hc : c ≤ 5) (hS : S < 2 ^ c) : S < 32 := by
  have : 2 ^ c ≤ 32 := by
    rcases (show c = 0 ∨ c = 1 ∨ c = 2 ∨ c = 3 ∨ c = 4 ∨ c = 5 by omega) with rfl | rfl | rfl | rfl | rfl | rfl <;> decide
  omega
theorem eqC_of {m a b : Int} (h : eqC m a a = true) (he : a = b) : eqC m a b = true := by subst he; exact h
theorem eqC_val {m a b : Int} (h : eqC m a b = true) : a = b := by
  unfold eqC at h; simp only [decide_eq_true_eq] at h; exact h.2.1
/-- Two rows have one key if they agree. -/
theorem key_agree {c : Nat} {ll : List (List Int)} {m : Int} {S a b : Nat} {r : List Int} (hc : c ≤ 5) (hS : S < 2 ^ c) (hk : keyT c ll m S a = some r) : keyT c ll m S b = some r ↔ agB c ll m (S : Int) a b = true := by
  have h32 := pow_lt32 hc hS
  unfold keyT at *
  split at hk
  · next ha =>
    have hk' := (Option.some.inj hk).symm
    subst hk'
    have ha' := (agB_iff c ll m S a a hc hS).1 ha
    constructor
    · intro hb
      split at hb
      · have he := (rec_eq h32).1 (Option.some.inj hb)
        rw [agB_iff c ll m S _ _ hc hS]
        intro j hj hbit
        exact eqC_of (ha' j hj hbit) (he j (by omega) hbit).symm
      · cases hb
    · intro hab
      have hbb := agB_trans hc hS (agB_symm hc hS hab) hab
      rw [if_pos hbb]
      congr 1
      refine (rec_eq h32).2 fun j hj hbit => ?_
      have hjc := bit_low ⟨c, by omega⟩ ⟨S, h32⟩ ⟨j, hj⟩ hS hbit
      exact (eqC_val ((agB_iff c ll m S a b hc hS).1 hab j hjc hbit)).symm
  · cases hk
theorem pad5_r5 {r : List Int} (h : ∀ x ∈ r, -1 ≤ x ∧ x ≤ 40) : R5 (pad5 r) := by
  refine ⟨pad5_len r, fun j hj => ?_⟩
  rw [← get_getD (pad5 r) j (by rw [pad5_len]; exact hj), pad5_get]
  refine Go.WalkArith.wf_i64 ?_
  by_cases hjl : j < r.length
  · have := h (r.getD j 0) (by rw [← get_getD r j hjl]; exact List.getElem_mem _)
    omega
  · rw [getD_end r j (by omega)]; omega
theorem recC_bd {c : Int} {ll : List (List Int)} {S i : Nat} (hT : isT c ll = true) (hS : S < 2 ^ c.toNat) (hi : i < ll.length) : ∀ x ∈ recC ll S i, -1 ≤ x ∧ x ≤ 40 := by
  obtain ⟨c1, c5, -⟩ := isT_bd hT
  intro x hx
  unfold recC at hx
  obtain ⟨k, hk, rfl⟩ := List.mem_map.1 hx
  obtain ⟨j, h1, h2, rfl⟩ := (mem_mems (pow_lt32 (by omega) hS)).1 hk
  obtain ⟨hl, hb⟩ := isT_row hT hi
  have hjc := bit_low ⟨c.toNat, by omega⟩ ⟨S, pow_lt32 (by omega) hS⟩ ⟨j, h1⟩ hS h2
  simp only at hjc
  rw [show ((j : Int)).toNat = j by omega]
  exact hb _ (by rw [← get_getD _ j (by omega)]; exact List.getElem_mem _)
theorem mems_in {c : Int} {ll : List (List Int)} {S i : Nat} (hT : isT c ll = true) (hS : S < 2 ^ c.toNat) (hi : i < ll.length) : ∀ x ∈ mems (S : Int), 0 ≤ x ∧ x < ((ll.getD i []).length : Int) := by
  obtain ⟨c1, c5, -⟩ := isT_bd hT
  intro x hx
  obtain ⟨j, h1, h2, rfl⟩ := (mem_mems (pow_lt32 (by omega) hS)).1 hx
  obtain ⟨hl, -⟩ := isT_row hT hi
  have hjc := bit_low ⟨c.toNat, by omega⟩ ⟨S, pow_lt32 (by omega) hS⟩ ⟨j, h1⟩ hS h2
  simp only at hjc
  omega
end Go.Proofs.Ytcgkfbjdlhapkaa
namespace Go.Proofs.Ytcgkfbjdlhapkaa
section
variable {α β : Type} [DecidableEq α] [DecidableEq β]
theorem perm_mem {a b : List α} (ha : a.Nodup) (hb : b.Nodup) (h : ∀ x, x ∈ a ↔ x ∈ b) : a.Perm b :=
  List.perm_iff_count.2 fun x => by
    by_cases hx : x ∈ a
    · rw [List.Nodup.count ha, List.Nodup.count hb, if_pos hx, if_pos ((h x).1 hx)]
    · rw [List.Nodup.count ha, List.Nodup.count hb, if_neg hx, if_neg (fun e => hx ((h x).2 e))]
theorem perm_sumN {a b : List Nat} (h : a.Perm b) : a.sum = b.sum := by
  induction h with
  | nil => rfl
  | cons x _ ih => simp [ih]
  | swap x y l => simp; omega
  | trans _ _ h1 h2 => rw [h1, h2]
theorem sum_split {γ : Type} (l : List γ) (f g : γ → Nat) : (l.map fun x => f x + g x).sum = (l.map f).sum + (l.map g).sum := by
  induction l with
  | nil => rfl
  | cons a t ih => simp only [List.map_cons, List.sum_cons, ih]; omega
theorem sum_none (k : α) : ∀ rs : List α, k ∉ rs → (rs.map fun r => if k = r then 1 else 0).sum = 0
  | [], _ => rfl
  | r :: t, h => by
    rw [List.map_cons, List.sum_cons, sum_none k t (fun e => h (List.mem_cons_of_mem _ e)), if_neg (fun e => h (by rw [e]; exact List.mem_cons_self))]
theorem sum_one (k : α) : ∀ rs : List α, rs.Nodup → k ∈ rs → (rs.map fun r => if k = r then 1 else 0).sum = 1
  | [], _, h => by cases h
  | r :: t, hn, h => by
    obtain ⟨h1, h2⟩ := List.nodup_cons.1 hn
    rw [List.map_cons, List.sum_cons]
    by_cases e : k = r
    · subst e
      rw [if_pos rfl, sum_none k t h1]
    · rw [if_neg e, sum_one k t h2 (by rcases List.mem_cons.1 h with h | h; exact absurd h e; exact h)]
omit [DecidableEq β] in
theorem sum_groups (K : β → α) {rs : List α} (hn : rs.Nodup) : ∀ l : List β, (∀ x ∈ l, K x ∈ rs) → (rs.map fun r => (l.filter fun x => decide (K x = r)).length).sum = l.length
  | [], _ => by
    have : ∀ rs : List α, (rs.map fun _ => 0).sum = 0 := fun rs => by induction rs with
      | nil => rfl
      | cons a t ih => simp [ih]
    simpa using this rs
  | x :: t, h => by
    have ih := sum_groups K hn t (fun y hy => h y (List.mem_cons_of_mem _ hy))
    have e : (fun r => ((x :: t).filter fun x => decide (K x = r)).length) = fun r => (if K x = r then 1 else 0) + (t.filter fun x => decide (K x = r)).length := by
      funext r
      by_cases hr : K x = r
      · rw [List.filter_cons_of_pos (by simpa using hr), if_pos hr, List.length_cons]; omega
      · rw [List.filter_cons_of_neg (by simpa using hr), if_neg hr]; omega
    rw [e, sum_split, ih, sum_one (K x) rs hn (h x List.mem_cons_self), List.length_cons]; omega
/-- How often a key is there among the first n. -/
def cntK (K : Nat → α) (n : Nat) (r : α) : Nat := ((List.range n).filter fun i => decide (K i = r)).length
theorem cntK_succ (K : Nat → α) (n : Nat) (r : α) : cntK K (n + 1) r = if r = K n then cntK K n r + 1 else cntK K n r := by
  unfold cntK
  rw [List.range_succ, List.filter_append, List.length_append]
  by_cases h : r = K n
  · rw [if_pos h, List.filter_cons_of_pos (by simpa using h.symm)]; rfl
  · rw [if_neg h, List.filter_cons_of_neg (by simpa using fun e => h e.symm)]; rfl
theorem cntK_le (K : Nat → α) (n : Nat) (r : α) : cntK K n r ≤ n := by
  have := List.length_filter_le (fun i => decide (K i = r)) (List.range n)
  rw [List.length_range] at this
  exact this
theorem cntK_mono (K : Nat → α) (r : α) (n : Nat) : ∀ d, cntK K n r ≤ cntK K (n + d) r
  | 0 => Nat.le_refl _
  | d + 1 => by
    have h := cntK_mono K r n d
    rw [show n + (d + 1) = n + d + 1 by omega, cntK_succ]
    split <;> omega
theorem cntK_pos {K : Nat → α} {n i : Nat} (h : i < n) : 1 ≤ cntK K n (K i) := by
  have : i ∈ (List.range n).filter fun j => decide (K j = K i) := List.mem_filter.2 ⟨List.mem_range.2 h, by simp⟩
  exact List.length_pos_of_mem this
/-- How often the most frequent one is there, for each key. -/
def stayK (K : Nat → α) (S : Nat → β) : Nat → α → Nat
  | 0, _ => 0
  | n + 1, r => if r = K n then max (stayK K S n r) (cntK S (n + 1) (S n)) else stayK K S n r
theorem stayK_ge (K : Nat → α) (S : Nat → β) (hKS : ∀ i j, S i = S j → K i = K j) : ∀ n j, j < n → cntK S n (S j) ≤ stayK K S n (K j)
  | 0, j, h => absurd h (Nat.not_lt_zero _)
  | n + 1, j, h => by
    show _ ≤ if K j = K n then max (stayK K S n (K j)) (cntK S (n + 1) (S n)) else stayK K S n (K j)
    by_cases hs : S j = S n
    · rw [if_pos (hKS j n hs), hs]; omega
    · have hjn : j < n := by
        rcases Nat.lt_or_ge j n with h' | h'
        · exact h'
        · exact absurd (congrArg S (show j = n by omega)) hs
      have ih := stayK_ge K S hKS n j hjn
      rw [cntK_succ, if_neg hs]
      split <;> omega
theorem stayK_is (K : Nat → α) (S : Nat → β) (r : α) : ∀ n, stayK K S n r = 0 ∨ ∃ j, j < n ∧ K j = r ∧ stayK K S n r ≤ cntK S n (S j)
  | 0 => .inl rfl
  | n + 1 => by
    by_cases hr : r = K n
    · refine .inr ?_
      have hd : stayK K S (n + 1) r = max (stayK K S n r) (cntK S (n + 1) (S n)) := if_pos hr
      by_cases hm : stayK K S n r ≤ cntK S (n + 1) (S n)
      · exact ⟨n, by omega, hr.symm, by rw [hd]; omega⟩
      · rcases stayK_is K S r n with h0 | ⟨j, hj, hk, hle⟩
        · omega
        · have := cntK_mono S (S j) n 1
          exact ⟨j, by omega, hk, by rw [hd]; omega⟩
    · have hd : stayK K S (n + 1) r = stayK K S n r := if_neg hr
      rcases stayK_is K S r n with h0 | ⟨j, hj, hk, hle⟩
      · exact .inl (hd.trans h0)
      · have := cntK_mono S (S j) n 1
        exact .inr ⟨j, by omega, hk, by rw [hd]; omega⟩
theorem stayK_le (K : Nat → α) (S : Nat → β) (r : α) (n : Nat) : stayK K S n r ≤ n := by
  rcases stayK_is K S r n with h | ⟨j, -, -, h⟩
  · omega
  · have := cntK_le S n (S j)
    omega
theorem stayK_has (K : Nat → α) (S : Nat → β) (hKS : ∀ i j, S i = S j → K i = K j) (n : Nat) (r : α) : stayK K S n r ≠ 0 ↔ ∃ i, i < n ∧ K i = r := by
  constructor
  · intro h
    rcases stayK_is K S r n with h0 | ⟨j, hj, hk, -⟩
    · exact absurd h0 h
    · exact ⟨j, hj, hk⟩
  · rintro ⟨i, hi, rfl⟩
    have := stayK_ge K S hKS n i hi
    have := cntK_pos (K := S) hi
    omega
theorem stayK_grp (K : Nat → α) (S : Nat → β) (hKS : ∀ i j, S i = S j → K i = K j) (n : Nat) (r : α) : stayK K S n r ≤ cntK K n r := by
  rcases stayK_is K S r n with h | ⟨j, hj, rfl, h⟩
  · omega
  · refine Nat.le_trans h ?_
    unfold cntK
    rw [← List.countP_eq_length_filter, ← List.countP_eq_length_filter]
    exact List.countP_mono_left fun i _ hi => by
      simp at hi ⊢
      exact hKS _ _ hi
/-- The first rows of their keys. -/
def firstK (K : Nat → α) (n : Nat) : List Nat := (List.range n).filter fun a => !(List.range a).any fun b => decide (K b = K a)
theorem firstK_mem {K : Nat → α} {n a : Nat} : a ∈ firstK K n ↔ a < n ∧ ∀ b, b < a → K b ≠ K a := by
  unfold firstK
  rw [List.mem_filter, List.mem_range]
  refine and_congr_right fun _ => ?_
  rw [Bool.not_eq_true', List.any_eq_false]
  exact ⟨fun h b hb => by have := h b (List.mem_range.2 hb); simpa using this, fun h b hb => by have := h b (List.mem_range.1 hb); simpa using this⟩
theorem firstK_nodup (K : Nat → α) (n : Nat) : ((firstK K n).map K).Nodup := by
  refine List.pairwise_map.2 ?_
  have h := (List.pairwise_lt_range (n := n)).filter (fun a => !(List.range a).any fun b => decide (K b = K a))
  refine h.imp_of_mem fun {a b} ha hb hab => ?_
  exact (firstK_mem.1 hb).2 a hab
theorem firstK_all (K : Nat → α) : ∀ n i, i < n → K i ∈ (firstK K n).map K := by
  intro n i
  induction i using Nat.strongRecOn with
  | _ i ih =>
    intro hi
    by_cases h : ∀ b, b < i → K b ≠ K i
    · exact List.mem_map.2 ⟨i, firstK_mem.2 ⟨hi, h⟩, rfl⟩
    · have ⟨b, hb, he⟩ : ∃ b, b < i ∧ K b = K i := by
        by_cases hx : ∃ b, b < i ∧ K b = K i
        · exact hx
        · exact absurd (fun b hb e => hx ⟨b, hb, e⟩) h
      rw [← he]
      exact ih b hb (by omega)
theorem sum_subN {γ : Type} (l : List γ) (f g : γ → Nat) (h : ∀ x ∈ l, g x ≤ f x) : (l.map f).sum - (l.map g).sum = (l.map fun x => f x - g x).sum ∧ (l.map g).sum ≤ (l.map f).sum := by
  induction l with
  | nil => exact ⟨rfl, Nat.le_refl _⟩
  | cons a t ih =>
    obtain ⟨i1, i2⟩ := ih (fun x hx => h x (List.mem_cons_of_mem _ hx))
    have := h a List.mem_cons_self
    simp only [List.map_cons, List.sum_cons]
    exact ⟨by omega, by omega⟩
theorem sum_filter {γ : Type} (l : List γ) (f : γ → Nat) (p : γ → Bool) (h : ∀ x ∈ l, p x = false → f x = 0) : (l.map f).sum = ((l.filter p).map f).sum := by
  induction l with
  | nil => rfl
  | cons a t ih =>
    have i1 := ih (fun x hx => h x (List.mem_cons_of_mem _ hx))
    cases hp : p a with
    | true => rw [List.filter_cons_of_pos hp]; simp only [List.map_cons, List.sum_cons, i1]
    | false => rw [List.filter_cons_of_neg (by rw [hp]; exact Bool.false_ne_true)]; simp only [List.map_cons, List.sum_cons, i1, h a List.mem_cons_self hp]; omega
/-- What is left of n when the numbers of a list of all keys are taken away. -/
theorem left_sum (K : Nat → α) (S : Nat → β) (hKS : ∀ i j, S i = S j → K i = K j) (n : Nat) {rs : List α} (hn : rs.Nodup) (hm : ∀ x, x ∈ rs ↔ ∃ i, i < n ∧ K i = x) :
    (rs.map (stayK K S n)).sum ≤ n ∧ n - (rs.map (stayK K S n)).sum = (((firstK K n).filter fun a => decide (1 < cntK K n (K a))).map fun a => cntK K n (K a) - stayK K S n (K a)).sum := by
  have hp : rs.Perm ((firstK K n).map K) := perm_mem hn (firstK_nodup K n) fun x => by
    rw [hm]
    constructor
    · rintro ⟨i, hi, rfl⟩; exact firstK_all K n i hi
    · intro hx
      obtain ⟨a, ha, rfl⟩ := List.mem_map.1 hx
      exact ⟨a, (firstK_mem.1 ha).1, rfl⟩
  have h1 := perm_sumN (hp.map (stayK K S n))
  have h2 := perm_sumN (hp.map (cntK K n))
  have h3 := sum_groups K hn (List.range n) (fun i hi => (hm _).2 ⟨i, List.mem_range.1 hi, rfl⟩)
  rw [List.length_range] at h3
  have h3' : (rs.map (cntK K n)).sum = n := h3
  rw [h3', List.map_map] at h2
  rw [h1, List.map_map]
  obtain ⟨h4, h5⟩ := sum_subN (firstK K n) (cntK K n ∘ K) (stayK K S n ∘ K) (fun a _ => stayK_grp K S hKS n (K a))
  rw [← h2] at h4 h5
  refine ⟨h5, h4.trans (sum_filter _ _ _ fun a ha hb => ?_)⟩
  have hc : cntK K n (K a) ≤ 1 := by simpa using hb
  have hl := (firstK_mem.1 ha).1
  have := stayK_ge K S hKS n a hl
  have := cntK_pos (K := S) hl
  show cntK K n (K a) - stayK K S n (K a) = 0
  omega
end
end Go.Proofs.Ytcgkfbjdlhapkaa
