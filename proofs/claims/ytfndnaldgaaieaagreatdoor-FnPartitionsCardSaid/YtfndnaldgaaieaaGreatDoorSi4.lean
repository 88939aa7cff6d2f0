/- Texts of this claim, merged: Tabs3, Tabs4, TabDraw. Conditions: as stated. -/
import Derived.Test.YtfndnaldgaaieaaGreatDoorSi3
namespace Go.Proofs.YtfndnaldgaaieaaGreatDoor
open Go.RowKit

theorem info3j : (Tryz.prog.info? 3).map (fun i => (i.zero, i.size, i.bytes)) = some (some (.int .i64 0), 1, 8) := by kernel_rfl
theorem infoSj : (Tryz.prog.info? 50).map (fun i => (i.zero, i.size, i.bytes)) = some (some (.slice none 0 0), 1, 24) := by kernel_rfl
theorem OwnI.full {w : World} {B : Nat} {v : Value} {n : Nat} (h : w.ownsRow B 3 1 v n (madeCells (Value.cells (.int .i64 0)) (n * 1)).toList) : OwnI w B v (List.replicate n 0) := by
  unfold OwnI
  have e : (madeCells (Value.cells (.int .i64 0)) (n * 1)).toList = intsV (List.replicate n 0) := by
    rw [show Value.cells (.int .i64 0) = #[.int .i64 0] from rfl, toList_madeCells_one]; simp [intsV]
  rw [e] at h; rw [List.length_replicate]; exact h
theorem copy_step (l : List Int) (k : Nat) (h : k < l.length) : (l.take k ++ List.replicate (l.length - k) 0).set k l[k] = l.take (k + 1) ++ List.replicate (l.length - (k + 1)) 0 := by
  rw [List.set_append, if_neg (by simp; omega), List.take_succ_eq_append_getElem h, List.append_assoc]
  congr 1
  rw [show k - (l.take k).length = 0 by simp; omega, show l.length - k = (l.length - (k + 1)) + 1 by omega, List.replicate_succ]
  rfl
/-- A row of ints in memory of the call's own, with its blocks' bounds. -/
def RetJ (l : List Int) (w : World) (e : Ending) (w' : World) : Prop := ∃ v, e = .returned v ∧ OwnI w' w.heap.size v l ∧ Below w.heap.size w w'
theorem copy_stepL (l : List (List Int)) (k : Nat) (h : k < l.length) : (l.take k ++ List.replicate (l.length - k) []).set k (l.getD k []) = l.take (k + 1) ++ List.replicate (l.length - (k + 1)) [] := by
  rw [List.set_append, if_neg (by simp; omega), take_succ_getD l [] k h, List.append_assoc]
  congr 1
  rw [show k - (l.take k).length = 0 by simp; omega, show l.length - k = (l.length - (k + 1)) + 1 by omega, List.replicate_succ]
  rfl
end Go.Proofs.YtfndnaldgaaieaaGreatDoor
namespace Go.Proofs.YtfndnaldgaaieaaGreatDoor
open Go.RowKit

/-- What holds at row k of an owned slice of rows, and what becomes of the whole when that row alone is written. -/
theorem OwnSS.at {w : World} {B C : Nat} {v : Value} {ll : List (List Int)} (h : OwnSS w B C v ll) {k : Nat} (hk : k < ll.length) :
    ∃ g cap u, v = .slice (some ⟨g, 0, none⟩) ll.length cap ∧ w.cell? ⟨g, k, none⟩ = some u ∧ OwnI w B u (ll.getD k []) ∧ (∀ q, u.ownBlock = some q → q < C) ∧
      ∀ w' l', OwnI w' B u l' → w.grownBy w' u.ownBlock → OwnSS w' B C v (ll.set k l') := by
  obtain ⟨V, o1, o2, o3, o4⟩ := h
  rcases ownsRow_shape o1 with ⟨rfl, hn⟩ | ⟨g, cap, rfl, -, -, -⟩
  · omega
  · have hap : ∀ i, i < ll.length → (V i).ownBlock ≠ some g := fun i hi => row_apart o1 (o3 i hi).1 g rfl
    refine ⟨g, cap, V k, rfl, ?_, (o3 k hk).1, (o3 k hk).2, fun w' l' h1 h2 => ⟨V, ?_, o2, fun i hi => ?_, ?_⟩⟩
    · rw [World.ownsRow.cellAt o1 k (by omega)]; simp [hk]
    · rw [List.length_set]
      exact World.ownsRow.kept o1 h2 (.inr (fun e => hap k hk (by rw [← e]; rfl)))
    · rw [List.length_set] at hi
      rw [getD_set _ _ _ _ _ hk]
      by_cases hik : i = k
      · subst hik; rw [if_pos rfl]; exact ⟨h1, (o3 i hi).2⟩
      · rw [if_neg hik]
        refine ⟨(o3 i hi).1.keptBy h2 (fun q hq hq2 => ?_), (o3 i hi).2⟩
        rcases Nat.lt_or_gt_of_ne hik with hlt | hgt
        · exact o4 i k hlt hk q hq2 hq
        · exact o4 k i hgt hi q hq hq2
    · rw [List.length_set]; exact o4
/-- The rows ll, the first i of them written over with k, k + 1, and so on. -/
def mk (k : Int) (ll : List (List Int)) (i : Nat) : List (List Int) := (List.range ll.length).map fun j => if j < i then upFrom (k + (tot (ll.take j) : Int)) (ll.getD j []).length else ll.getD j []
theorem mk_len (k : Int) (ll : List (List Int)) (i : Nat) : (mk k ll i).length = ll.length := by simp [mk]
theorem mk_get (k : Int) (ll : List (List Int)) (i j : Nat) (hj : j < ll.length) : (mk k ll i).getD j [] = if j < i then upFrom (k + (tot (ll.take j) : Int)) (ll.getD j []).length else ll.getD j [] := by
  rw [List.getD_eq_getElem?_getD, List.getElem?_eq_getElem (by rw [mk_len]; exact hj)]; simp [mk]
theorem ext_getD {a b : List (List Int)} (hl : a.length = b.length) (h : ∀ j, j < a.length → a.getD j [] = b.getD j []) : a = b := by
  apply List.ext_getElem hl
  intro j h1 h2
  have := h j h1
  rwa [List.getD_eq_getElem?_getD, List.getD_eq_getElem?_getD, List.getElem?_eq_getElem h1, List.getElem?_eq_getElem h2] at this
theorem mk_zero (k : Int) (ll : List (List Int)) : mk k ll 0 = ll :=
  ext_getD (mk_len _ _ _) fun j hj => by rw [mk_len] at hj; rw [mk_get _ _ _ _ hj, if_neg (by omega)]
theorem mk_set (k : Int) (ll : List (List Int)) (i : Nat) (hi : i < ll.length) : (mk k ll i).set i (upFrom (k + (tot (ll.take i) : Int)) (ll.getD i []).length) = mk k ll (i + 1) := by
  refine ext_getD (by rw [List.length_set, mk_len, mk_len]) fun j hj => ?_
  rw [List.length_set, mk_len] at hj
  rw [getD_set _ _ _ _ _ (by rw [mk_len]; exact hi), mk_get _ _ _ _ hj, mk_get _ _ _ _ hj]
  by_cases h : j = i
  · subst h; rw [if_pos rfl, if_pos (by omega)]
  · rw [if_neg h]
    by_cases h2 : j < i
    · rw [if_pos h2, if_pos (by omega)]
    · rw [if_neg h2, if_neg (by omega)]
/-- The rows written over. -/
def upRows (k : Int) (ll : List (List Int)) : List (List Int) := mk k ll ll.length
theorem upRows_len (k : Int) (ll : List (List Int)) : (upRows k ll).length = ll.length := mk_len _ _ _
theorem upRows_get (k : Int) (ll : List (List Int)) (j : Nat) (hj : j < ll.length) : (upRows k ll).getD j [] = upFrom (k + (tot (ll.take j) : Int)) (ll.getD j []).length := by
  unfold upRows; rw [mk_get _ _ _ _ hj, if_pos hj]
def MarkSS (k : Int) (ll : List (List Int)) (B C : Nat) (v : Value) (w : World) (e : Ending) (w' : World) : Prop := e = .returned (.int .i64 (k + (tot ll : Int))) ∧ OwnSS w' B C v (upRows k ll) ∧ Mid B C w w'
def MarkT (k : Int) (ll : List (List Int)) (B C : Nat) (v : Value) (w : World) (e : Ending) (w' : World) : Prop := e = .returned (.int .i64 (k + (tot ll : Int))) ∧ OwnSS w' B C v (upRows k ll) ∧ Mid B C w w'
/-! ### Rows of ints with their bounds -/
def OwnIR (w : World) (B C : Nat) (v : Value) (l : List Int) : Prop := OwnI w B v l ∧ ∀ g, v.ownBlock = some g → g < C
theorem OwnI.range {w : World} {B : Nat} {v : Value} {l : List Int} (h : OwnI w B v l) : OwnIR w B w.heap.size v l := ⟨h, fun g hg => (h.lt g hg).2⟩
theorem OwnIR.same {w w' : World} {B C : Nat} {v : Value} {l : List Int} (h : OwnIR w B C v l) (hs : Same B C w w') : OwnIR w' B C v l := ⟨h.1.same fun g hg => hs g (h.1.lt g hg).1 (h.2 g hg), h.2⟩
theorem OwnIR.read {w : World} {B C : Nat} {v : Value} {l : List Int} (h : OwnIR w B C v l) : ReadI w v l := h.1.read
def MarkI (k : Int) (l : List Int) (B C : Nat) (v : Value) (w : World) (e : Ending) (w' : World) : Prop := e = .returned (.int .i64 (k + (l.length : Int))) ∧ OwnIR w' B C v (upFrom k l.length) ∧ Mid B C w w'
end Go.Proofs.YtfndnaldgaaieaaGreatDoor
namespace Go.Proofs.YtfndnaldgaaieaaGreatDoor
open Go.RowKit

def CurRow (W : World) (v : Value) (n c : Nat) (k : Nat) (wide : Int) (w : World) (e : Ending) (w' : World) : Prop :=
  ∃ u l, e = .returned u ∧ l.length = k ∧ (∀ x ∈ l, -1 ≤ x ∧ x < wide) ∧ OwnI w' w.heap.size u l ∧ w.grownBy w' (some c) ∧ Cur W v n c w'
set_option maxHeartbeats 1600000 in
theorem row_any (W : World) (v : Value) (n : Nat) (hn : n ≤ 1048576) (hcode : CodeAt W v n) (c : Nat) (w : World) (hcur : Cur W v n c w) (k : Nat) (hk : k ≤ 1000) (wide : Int) (h1 : 1 ≤ wide) (h2 : wide ≤ 1000000) :
    Calls Tryz.prog 88 #[.pointer (some ⟨c, 0, none⟩), .int .i64 (k : Int), .int .i64 wide] w (CurRow W v n c k wide w) := by
  have HB := Lib.hid (below_any W v n hn hcode c)
  have HO := Lib.hid (once_any W v n hn hcode c)
  obtain ⟨i0, hi, hz0, hz1, hz2⟩ := info_parts info3j
  have HI : Hid (_ ∧ _ ∧ _ ∧ _) := Lib.hid ⟨hi, hz0, hz1, hz2⟩
  clear hi hz0 hz1 hz2
  have hcw := hcur.lt
  have hWc : W.heap.size ≤ c := by obtain ⟨_, _, h, _⟩ := hcur; exact h
  have hcur0 := hcur.kept (World.grownBy_alloc w (.cells #[] 3) none) (by simp) (by simp)
  have hown0 : OwnI (w.alloc (.cells #[] 3)) w.heap.size (.slice (some ⟨w.heap.size, 0, none⟩) 0 0) [] :=
    OwnI.made (World.ownsRow_made w #[] 0 (Nat.le_refl _) (by unfold maxLen; omega) rfl)
  have hg0 : w.grownBy (w.alloc (.cells #[] 3)) (some c) := World.grownBy_alloc w _ _
  go_enter Tryz.func88, Tryz.ntmps88
  go_wp2_with fail
  go_loopw [7, 8] (fun ov iv wr => ∃ (j : Nat) (l : List Int), j ≤ k ∧ iv = .int .i64 (j : Int) ∧ Hid (l.length = j ∧ ∀ x ∈ l, -1 ≤ x ∧ x < wide) ∧ OwnI wr w.heap.size ov l ∧ w.grownBy wr (some c) ∧ Cur W v n c wr) (fun _ iv _ => k - (intOf iv).toNat)
  case atStart => exact ⟨0, [], by omega, rfl, Lib.hid ⟨rfl, by simp⟩, hown0, hg0, hcur0⟩
  case round =>
    clear hown0 hg0 hcur0
    obtain ⟨j, l, hj, rfl, hL, ho, hg, hc⟩ := hrel
    have hll : l.length = j := hL.out.1
    by_cases hlt : j < k
    · have z0 : (0 : Int) ≤ (j : Int) := by omega
      have z1 : (j : Int) < (k : Int) := by omega
      clear hll
      go_wp2_with fail
      refine (HB.out _ hc wide (by omega) (by omega)).mono ?_
      rintro e w1 ⟨x, x0, x1, rfl, g1, hc1⟩
      have ho1 := ho.keptBy g1 (fun g h e => by cases h; have := (ho.lt c e).1; omega)
      have hg1 := grown_trans hg g1
      clear g1 hc ho hg
      go_wp2_with fail
      refine (HO.out _ hc1 12 (by omega) (by omega)).mono ?_
      rintro e w2 ⟨b, rfl, g2, hc2⟩
      have ho2 := ho1.keptBy g2 (fun g h e => by cases h; have := (ho1.lt c e).1; omega)
      have hg2 := grown_trans hg1 g2
      clear g2 hc1 ho1 hg1
      have hlm : l.length ≤ 1000 := by have := hL.out.1; omega
      cases b with
      | true =>
        go_wp2_with (at_builtin; refine wpList_append_own _ rfl _ _ 50 rfl w.heap.size 3 i0 (.int .i64 0) 1 8 Tryz.underlying50 HI.out.1 HI.out.2.1 HI.out.2.2.1 HI.out.2.2.2 rfl (by decide) _ _ _ rfl (World.ownsRow.alloc ho2 _) ⟨w2.heap.size, 0, none⟩ 1 1 [.int .i64 (-1)] rfl rfl (cell_one_new _ _ _) (one_i64 _) (by unfold maxLen; omega) (by omega) (le_of_grown hg2 _) ?_; intro v' w4 hown' hgrow _)
        have ho4 := OwnI.snoc hown'
        have hg4 := grown_above (grown_trans hg2 (World.grownBy_alloc w2 _ _)) hgrow (fun g h => (OwnI.lt ho2 g h).1)
        have hc4 := (hc2.kept (World.grownBy_alloc w2 _ none) (by simp) (by simp)).kept hgrow (fun g h => by have := (OwnI.lt ho2 g h).1; omega) (fun h => by have := (OwnI.lt ho2 c h).1; omega)
        clear hown' hgrow
        go_wp2_with fail
        go_roundw
        case rel => exact ⟨j + 1, _, by omega, by go_num, Lib.hid ⟨by simp [hL.out.1], fun y hy => by
          rcases List.mem_append.1 hy with h | h
          · exact hL.out.2 y h
          · simp at h; omega⟩, ho4, hg4, hc4⟩
        case measure => simp [intOf]; omega
      | false =>
        go_wp2_with (at_builtin; refine wpList_append_own _ rfl _ _ 50 rfl w.heap.size 3 i0 (.int .i64 0) 1 8 Tryz.underlying50 HI.out.1 HI.out.2.1 HI.out.2.2.1 HI.out.2.2.2 rfl (by decide) _ _ _ rfl (World.ownsRow.alloc ho2 _) ⟨w2.heap.size, 0, none⟩ 1 1 [.int .i64 x] rfl rfl (cell_one_new _ _ _) (one_i64 _) (by unfold maxLen; omega) (by omega) (le_of_grown hg2 _) ?_; intro v' w4 hown' hgrow _)
        have ho4 := OwnI.snoc hown'
        have hg4 := grown_above (grown_trans hg2 (World.grownBy_alloc w2 _ _)) hgrow (fun g h => (OwnI.lt ho2 g h).1)
        have hc4 := (hc2.kept (World.grownBy_alloc w2 _ none) (by simp) (by simp)).kept hgrow (fun g h => by have := (OwnI.lt ho2 g h).1; omega) (fun h => by have := (OwnI.lt ho2 c h).1; omega)
        clear hown' hgrow
        go_wp2_with fail
        go_roundw
        case rel => exact ⟨j + 1, _, by omega, by go_num, Lib.hid ⟨by simp [hL.out.1], fun y hy => by
          rcases List.mem_append.1 hy with h | h
          · exact hL.out.2 y h
          · simp at h; omega⟩, ho4, hg4, hc4⟩
        case measure => simp [intOf]; omega
    · obtain rfl : j = k := by omega
      have hL2 := hL.out.2
      clear hll
      go_wp2_with fail
      go_ret
      exact ⟨_, _, rfl, hL.out.1, hL2, ho, hg, hc⟩
end Go.Proofs.YtfndnaldgaaieaaGreatDoor
