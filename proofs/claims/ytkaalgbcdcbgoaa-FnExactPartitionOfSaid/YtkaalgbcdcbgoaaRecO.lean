/- Records of five ints: recordOf, row, compareRecords, by contract. Conditions: as stated. -/
import Derived.Test.YtkaalgbcdcbgoaaCmpI
namespace Go.Proofs.Ytkaalgbcdcbgoaa
open Go.RowKit

/-- The block b holds the values r, and 0 behind them, in five cells. -/
def RecAt (w : World) (b : Nat) (r : List Int) : Prop := ∀ j, j < 5 → w.cell? ⟨b, j, none⟩ = some (.int .i64 (r.getD j 0)) ∧ w.frozen? ⟨b, j, none⟩ = false
theorem RecAt.kept {w w' : World} {b C : Nat} {r : List Int} (h : RecAt w b r) (hb : Below C w w') (hC : b < C) : RecAt w' b r := fun j hj => ⟨(hb.cell hC).trans (h j hj).1, (hb.frozen hC).trans (h j hj).2⟩
theorem getD_end (l : List Int) (j : Nat) (h : l.length ≤ j) : l.getD j 0 = 0 := by rw [List.getD_eq_getElem?_getD, List.getElem?_eq_none h]; rfl
theorem getD_app (l : List Int) (x : Int) (j : Nat) : (l ++ [x]).getD j 0 = if j = l.length then x else l.getD j 0 := by
  by_cases h : j < l.length + 1
  · rw [getD_snoc _ _ _ _ h]
    by_cases h2 : j = l.length
    · simp [h2]
    · rw [if_pos (by omega), if_neg h2]
  · rw [if_neg (by omega), getD_end l j (by omega), getD_end (l ++ [x]) j (by rw [List.length_append, List.length_singleton]; omega)]
theorem RecAt.store {w : World} {b : Nat} {l : List Int} (h : RecAt w b l) (x : Int) (h5 : l.length < 5) : RecAt (w.setCell ⟨b, l.length, none⟩ (.int .i64 x)) b (l ++ [x]) := by
  intro j hj
  rw [getD_app, World.frozen?_setCell]
  refine ⟨?_, (h j hj).2⟩
  by_cases hjl : j = l.length
  · subst hjl
    rw [if_pos rfl]
    exact World.cell?_setCell_same _ _ _ (h _ h5).1
  · rw [if_neg hjl]
    exact (World.cell?_setCell_other _ _ _ _ (by intro e; simp only [Addr.mk.injEq] at e; omega)).trans (h j hj).1
theorem RecAt.drewN {w : World} {b : Nat} {l : List Int} (h : RecAt w b l) (n : Nat) : RecAt (w.drewN n) b l := fun j hj => h j hj
theorem RecAt.fresh (w : World) : RecAt (w.alloc (.cells #[.int .i64 0, .int .i64 0, .int .i64 0, .int .i64 0, .int .i64 0] 55)) w.heap.size [] := by
  intro j hj
  rw [show ([] : List Int).getD j 0 = 0 by simp]
  refine ⟨?_, ?_⟩
  · rw [World.cell?_alloc_mark w #[.int .i64 0, .int .i64 0, .int .i64 0, .int .i64 0, .int .i64 0] 55 (0, 0) j]
    rcases (show j = 0 ∨ j = 1 ∨ j = 2 ∨ j = 3 ∨ j = 4 by omega) with rfl | rfl | rfl | rfl | rfl <;> rfl
  · exact World.frozen?_alloc_new _ _ _ _
set_option maxHeartbeats 1600000 in
theorem recordOf_any (v vc : Value) (r cs : List Int) (w : World) (hr : ReadI w v r) (hc : ReadI w vc cs) (h5 : cs.length ≤ 5) (hin : ∀ x ∈ cs, 0 ≤ x ∧ x < (r.length : Int)) :
    Calls Try.prog 37 #[v, vc] w fun e w' => ∃ b, e = .returned (.pointer (some ⟨b, 0, none⟩)) ∧ RecAt w' b (cs.map fun k => r.getD k.toNat 0) ∧ w.heap.size ≤ b ∧ b < w'.heap.size ∧ Below w.heap.size w w' := by
  obtain ⟨a, cap, rfl, ha⟩ := hr
  obtain ⟨a', cap', rfl, ha'⟩ := hc
  have HA := Lib.hid ha
  have HA' := Lib.hid ha'
  have HIN := Lib.hid hin
  clear ha ha' hin
  have hb1 := (Below.refl w.heap.size w).alloc (Nat.le_refl _) (.cells #[.int .i64 0, .int .i64 0, .int .i64 0, .int .i64 0, .int .i64 0] 55)
  have hrec := RecAt.fresh w
  have hsz : w.heap.size < (w.alloc (.cells #[.int .i64 0, .int .i64 0, .int .i64 0, .int .i64 0, .int .i64 0] 55)).heap.size := by simp
  go_enter Try.func37, Try.ntmps37
  go_wp2_with fail
  go_loopw [11] (fun iv wr => ∃ (k : Nat) (l : List Int), k ≤ cs.length ∧ iv = .int .i64 (k : Int) ∧ Hid (l = (cs.take k).map fun k => r.getD k.toNat 0) ∧ RecAt wr w.heap.size l ∧ w.heap.size < wr.heap.size ∧ Below w.heap.size w wr) (fun iv _ => cs.length - (intOf iv).toNat)
  case atStart => exact ⟨0, [], by omega, rfl, Lib.hid rfl, hrec, hsz, hb1⟩
  case round =>
    clear hrec hsz hb1
    obtain ⟨k, l, hk, rfl, hL, hrec, hsz, hb⟩ := hrel
    have hll : l.length = k := by rw [hL.out, List.length_map, List.length_take]; omega
    by_cases hlt : k < cs.length
    · obtain ⟨x', rfl, hx'⟩ := HA'.out k hlt
      have hin := HIN.out cs[k] (List.getElem_mem _)
      obtain ⟨q, hq⟩ : ∃ q : Nat, cs[k] = (q : Int) := ⟨cs[k].toNat, by omega⟩
      rw [hq] at hin hx'
      obtain ⟨x, rfl, hx⟩ := HA.out q (by omega)
      have hgd := get_getD r q (by omega)
      rw [hgd] at hx
      have hy := (hb.cell (World.block_lt_of_cell? w _ hx)).trans hx
      have hy' := (hb.cell (World.block_lt_of_cell? w _ hx')).trans hx'
      have HS := Lib.hid (map_take_succ cs (fun k => r.getD k.toNat 0) 0 k hlt)
      have hgc := get_getD cs k hlt
      rw [← hgc, hq, show ((q : Nat) : Int).toNat = q from rfl] at HS
      obtain ⟨y, hyy⟩ : ∃ y, r.getD q 0 = y := ⟨_, rfl⟩
      rw [hyy] at hy HS
      have z0 : (0 : Int) ≤ (k : Int) := by omega
      have z1 : (k : Int) < (cs.length : Int) := by omega
      have z2 : (k : Int) < 5 := by omega
      have z3 : (0 : Int) ≤ (q : Int) := by omega
      have z4 : (q : Int) < (r.length : Int) := by omega
      obtain ⟨hcell, hfz⟩ := hrec k (by omega)
      have HR := Lib.hid hrec
      have HB := Lib.hid hb
      have HLL := Lib.hid hll
      clear hx hx' hyy hgd hgc hq hrec hb hll hin
      go_wp2_with fail
      go_region
      go_wp2_with fail
      go_roundw
      case rel =>
        have hs := HR.out.store y (by rw [HLL.out]; omega)
        rw [HLL.out] at hs
        exact ⟨k + 1, _, by omega, by go_num, Lib.hid (by rw [HS.out, hL.out]), hs.drewN 1, by simpa using hsz, (HB.out.setCell (Nat.le_refl _) _).drew⟩
      case measure => simp [intOf]; omega
    · obtain rfl : k = cs.length := by omega
      go_wp2_with fail
      go_ret
      exact ⟨_, rfl, by have := hL.out; rw [List.take_length] at this; rw [← this]; exact hrec, Nat.le_refl _, hsz, hb⟩
/-- A record, read as a slice of five ints. -/
def pad5 (r : List Int) : List Int := (List.range 5).map fun j => r.getD j 0
theorem pad5_get (r : List Int) (j : Nat) (h : j < (pad5 r).length) : (pad5 r)[j] = r.getD j 0 := by simp [pad5]
theorem pad5_len (r : List Int) : (pad5 r).length = 5 := by simp [pad5]
theorem RecAt.read {w : World} {b : Nat} {r : List Int} (h : RecAt w b r) : ReadI w (.slice (some ⟨b, 0, none⟩) 5 5) (pad5 r) := by
  refine ⟨some ⟨b, 0, none⟩, 5, by rw [pad5_len], fun i hi => ⟨_, rfl, ?_⟩⟩
  rw [add_zero_off, (h i (by rw [pad5_len] at hi; exact hi)).1, pad5_get]
end Go.Proofs.Ytkaalgbcdcbgoaa
