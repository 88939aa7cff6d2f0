/- Texts of this claim, merged: Tabs4, TabDraw, Grw, SpecT, SpecT2, Sets2. Conditions: as stated. -/
import Derived.Test.YtnbjcelfdppkcaaGreatTc2
import Derived.Test.YtnbjcelfdppkcaaGreatTc1
namespace Go.Proofs.YtnbjcelfdppkcaaGreat
open Go.RowKit

/-- What holds at row k of an owned slice of rows, and what becomes of the whole when that row alone is written. -/
theorem OwnSS.at {w : World} {B C : Nat} {v : Value} {ll : List (List Int)} (h : OwnSS w B C v ll) {k : Nat} (hk : k < ll.length) :
    ∃ g cap u, v = .slice (some ⟨g, 0, none⟩) ll.length cap ∧ w.cell? ⟨g, k, none⟩ = some u ∧ OwnI w B u (ll.getD k []) ∧ (∀ q, u.ownBlock = some q → q < C) ∧
      ∀ w' l', OwnI w' B u l' → w.grownBy w' u.ownBlock → OwnSS w' B C v (ll.set k l') := by
  obtain ⟨V, o1, o2, o3, o4⟩ := h
  rcases ownsRow_shape o1 with ⟨rfl, hn⟩ | ⟨g, cap, rfl, -, -, -⟩
  · omega
  · have hap : ∀ i, i < ll.length → (V i).ownBlock ≠ some g := fun i hi => row_apart o1 (o3 i hi).1 g rfl
    refine ⟨g, cap, V k, rfl, ?_, (o3 k hk).1, (o3 k hk).2, fun w' l' h1 h2 => ⟨V, ?_, o2, fun i hi => ?_, ?_⟩⟩
    · rw [World.ownsRow.cellAt o1 k (by omega)]; simp [hk]
    · rw [List.length_set]
      exact World.ownsRow.kept o1 h2 (.inr (fun e => hap k hk (by rw [← e]; rfl)))
    · rw [List.length_set] at hi
      rw [getD_set _ _ _ _ _ hk]
      by_cases hik : i = k
      · subst hik; rw [if_pos rfl]; exact ⟨h1, (o3 i hi).2⟩
      · rw [if_neg hik]
        refine ⟨(o3 i hi).1.keptBy h2 (fun q hq hq2 => ?_), (o3 i hi).2⟩
        rcases Nat.lt_or_gt_of_ne hik with hlt | hgt
        · exact o4 i k hlt hk q hq2 hq
        · exact o4 k i hgt hi q hq hq2
    · rw [List.length_set]; exact o4
/-- The rows ll, the first i of them written over with k, k + 1, and so on. -/
def mk (k : Int) (ll : List (List Int)) (i : Nat) : List (List Int) := (List.range ll.length).map fun j => if j < i then upFrom (k + (tot (ll.take j) : Int)) (ll.getD j []).length else ll.getD j []
theorem mk_len (k : Int) (ll : List (List Int)) (i : Nat) : (mk k ll i).length = ll.length := by simp [mk]
theorem mk_get (k : Int) (ll : List (List Int)) (i j : Nat) (hj : j < ll.length) : (mk k ll i).getD j [] = if j < i then upFrom (k + (tot (ll.take j) : Int)) (ll.getD j []).length else ll.getD j [] := by
  rw [List.getD_eq_getElem?_getD, List.getElem?_eq_getElem (by rw [mk_len]; exact hj)]; simp [mk]
theorem ext_getD {a b : List (List Int)} (hl : a.length = b.length) (h : ∀ j, j < a.length → a.getD j [] = b.getD j []) : a = b := by
  apply List.ext_getElem hl
  intro j h1 h2
  have := h j h1
  rwa [List.getD_eq_getElem?_getD, List.getD_eq_getElem?_getD, List.getElem?_eq_getElem h1, List.getElem?_eq_getElem h2] at this
theorem mk_zero (k : Int) (ll : List (List Int)) : mk k ll 0 = ll :=
  ext_getD (mk_len _ _ _) fun j hj => by rw [mk_len] at hj; rw [mk_get _ _ _ _ hj, if_neg (by omega)]
theorem mk_set (k : Int) (ll : List (List Int)) (i : Nat) (hi : i < ll.length) : (mk k ll i).set i (upFrom (k + (tot (ll.take i) : Int)) (ll.getD i []).length) = mk k ll (i + 1) := by
  refine ext_getD (by rw [List.length_set, mk_len, mk_len]) fun j hj => ?_
  rw [List.length_set, mk_len] at hj
  rw [getD_set _ _ _ _ _ (by rw [mk_len]; exact hi), mk_get _ _ _ _ hj, mk_get _ _ _ _ hj]
  by_cases h : j = i
  · subst h; rw [if_pos rfl, if_pos (by omega)]
  · rw [if_neg h]
    by_cases h2 : j < i
    · rw [if_pos h2, if_pos (by omega)]
    · rw [if_neg h2, if_neg (by omega)]
/-- The rows written over. -/
def upRows (k : Int) (ll : List (List Int)) : List (List Int) := mk k ll ll.length
theorem upRows_len (k : Int) (ll : List (List Int)) : (upRows k ll).length = ll.length := mk_len _ _ _
theorem upRows_get (k : Int) (ll : List (List Int)) (j : Nat) (hj : j < ll.length) : (upRows k ll).getD j [] = upFrom (k + (tot (ll.take j) : Int)) (ll.getD j []).length := by
  unfold upRows; rw [mk_get _ _ _ _ hj, if_pos hj]
def MarkSS (k : Int) (ll : List (List Int)) (B C : Nat) (v : Value) (w : World) (e : Ending) (w' : World) : Prop := e = .returned (.int .i64 (k + (tot ll : Int))) ∧ OwnSS w' B C v (upRows k ll) ∧ Mid B C w w'
def MarkT (k : Int) (ll : List (List Int)) (B C : Nat) (v : Value) (w : World) (e : Ending) (w' : World) : Prop := e = .returned (.int .i64 (k + (tot ll : Int))) ∧ OwnSS w' B C v (upRows k ll) ∧ Mid B C w w'
/-! ### Rows of ints with their bounds -/
def OwnIR (w : World) (B C : Nat) (v : Value) (l : List Int) : Prop := OwnI w B v l ∧ ∀ g, v.ownBlock = some g → g < C
theorem OwnI.range {w : World} {B : Nat} {v : Value} {l : List Int} (h : OwnI w B v l) : OwnIR w B w.heap.size v l := ⟨h, fun g hg => (h.lt g hg).2⟩
theorem OwnIR.same {w w' : World} {B C : Nat} {v : Value} {l : List Int} (h : OwnIR w B C v l) (hs : Same B C w w') : OwnIR w' B C v l := ⟨h.1.same fun g hg => hs g (h.1.lt g hg).1 (h.2 g hg), h.2⟩
theorem OwnIR.read {w : World} {B C : Nat} {v : Value} {l : List Int} (h : OwnIR w B C v l) : ReadI w v l := h.1.read
def MarkI (k : Int) (l : List Int) (B C : Nat) (v : Value) (w : World) (e : Ending) (w' : World) : Prop := e = .returned (.int .i64 (k + (l.length : Int))) ∧ OwnIR w' B C v (upFrom k l.length) ∧ Mid B C w w'
end Go.Proofs.YtnbjcelfdppkcaaGreat
namespace Go.Proofs.YtnbjcelfdppkcaaGreat
open Go.RowKit

def CurRow (W : World) (v : Value) (n c : Nat) (k : Nat) (wide : Int) (w : World) (e : Ending) (w' : World) : Prop :=
  ∃ u l, e = .returned u ∧ l.length = k ∧ (∀ x ∈ l, -1 ≤ x ∧ x < wide) ∧ OwnI w' w.heap.size u l ∧ w.grownBy w' (some c) ∧ Cur W v n c w'
set_option maxHeartbeats 1600000 in
theorem row_any (W : World) (v : Value) (n : Nat) (hn : n ≤ 1048576) (hcode : CodeAt W v n) (c : Nat) (w : World) (hcur : Cur W v n c w) (k : Nat) (hk : k ≤ 1000) (wide : Int) (h1 : 1 ≤ wide) (h2 : wide ≤ 1000000) :
    Calls Tryz.prog 61 #[.pointer (some ⟨c, 0, none⟩), .int .i64 (k : Int), .int .i64 wide] w (CurRow W v n c k wide w) := by
  have HB := Lib.hid (below_any W v n hn hcode c)
  have HO := Lib.hid (once_any W v n hn hcode c)
  obtain ⟨i0, hi, hz0, hz1, hz2⟩ := info_parts info3j
  have HI : Hid (_ ∧ _ ∧ _ ∧ _) := Lib.hid ⟨hi, hz0, hz1, hz2⟩
  clear hi hz0 hz1 hz2
  have hcw := hcur.lt
  have hWc : W.heap.size ≤ c := by obtain ⟨_, _, h, _⟩ := hcur; exact h
  have hcur0 := hcur.kept (World.grownBy_alloc w (.cells #[] 3) none) (by simp) (by simp)
  have hown0 : OwnI (w.alloc (.cells #[] 3)) w.heap.size (.slice (some ⟨w.heap.size, 0, none⟩) 0 0) [] :=
    OwnI.made (World.ownsRow_made w #[] 0 (Nat.le_refl _) (by unfold maxLen; omega) rfl)
  have hg0 : w.grownBy (w.alloc (.cells #[] 3)) (some c) := World.grownBy_alloc w _ _
  go_enter Tryz.func61, Tryz.ntmps61
  go_wp2_with fail
  go_loopw [7, 8] (fun ov iv wr => ∃ (j : Nat) (l : List Int), j ≤ k ∧ iv = .int .i64 (j : Int) ∧ Hid (l.length = j ∧ ∀ x ∈ l, -1 ≤ x ∧ x < wide) ∧ OwnI wr w.heap.size ov l ∧ w.grownBy wr (some c) ∧ Cur W v n c wr) (fun _ iv _ => k - (intOf iv).toNat)
  case atStart => exact ⟨0, [], by omega, rfl, Lib.hid ⟨rfl, by simp⟩, hown0, hg0, hcur0⟩
  case round =>
    clear hown0 hg0 hcur0
    obtain ⟨j, l, hj, rfl, hL, ho, hg, hc⟩ := hrel
    have hll : l.length = j := hL.out.1
    by_cases hlt : j < k
    · have z0 : (0 : Int) ≤ (j : Int) := by omega
      have z1 : (j : Int) < (k : Int) := by omega
      clear hll
      go_wp2_with fail
      refine (HB.out _ hc wide (by omega) (by omega)).mono ?_
      rintro e w1 ⟨x, x0, x1, rfl, g1, hc1⟩
      have ho1 := ho.keptBy g1 (fun g h e => by cases h; have := (ho.lt c e).1; omega)
      have hg1 := grown_trans hg g1
      clear g1 hc ho hg
      go_wp2_with fail
      refine (HO.out _ hc1 12 (by omega) (by omega)).mono ?_
      rintro e w2 ⟨b, rfl, g2, hc2⟩
      have ho2 := ho1.keptBy g2 (fun g h e => by cases h; have := (ho1.lt c e).1; omega)
      have hg2 := grown_trans hg1 g2
      clear g2 hc1 ho1 hg1
      have hlm : l.length ≤ 1000 := by have := hL.out.1; omega
      cases b with
      | true =>
        go_wp2_with (at_builtin; refine wpList_append_own _ rfl _ _ 29 rfl w.heap.size 3 i0 (.int .i64 0) 1 8 Tryz.underlying29 HI.out.1 HI.out.2.1 HI.out.2.2.1 HI.out.2.2.2 rfl (by decide) _ _ _ rfl (World.ownsRow.alloc ho2 _) ⟨w2.heap.size, 0, none⟩ 1 1 [.int .i64 (-1)] rfl rfl (cell_one_new _ _ _) (one_i64 _) (by unfold maxLen; omega) (by omega) (le_of_grown hg2 _) ?_; intro v' w4 hown' hgrow _)
        have ho4 := OwnI.snoc hown'
        have hg4 := grown_above (grown_trans hg2 (World.grownBy_alloc w2 _ _)) hgrow (fun g h => (OwnI.lt ho2 g h).1)
        have hc4 := (hc2.kept (World.grownBy_alloc w2 _ none) (by simp) (by simp)).kept hgrow (fun g h => by have := (OwnI.lt ho2 g h).1; omega) (fun h => by have := (OwnI.lt ho2 c h).1; omega)
        clear hown' hgrow
        go_wp2_with fail
        go_roundw
        case rel => exact ⟨j + 1, _, by omega, by go_num, Lib.hid ⟨by simp [hL.out.1], fun y hy => by
          rcases List.mem_append.1 hy with h | h
          · exact hL.out.2 y h
          · simp at h; omega⟩, ho4, hg4, hc4⟩
        case measure => simp [intOf]; omega
      | false =>
        go_wp2_with (at_builtin; refine wpList_append_own _ rfl _ _ 29 rfl w.heap.size 3 i0 (.int .i64 0) 1 8 Tryz.underlying29 HI.out.1 HI.out.2.1 HI.out.2.2.1 HI.out.2.2.2 rfl (by decide) _ _ _ rfl (World.ownsRow.alloc ho2 _) ⟨w2.heap.size, 0, none⟩ 1 1 [.int .i64 x] rfl rfl (cell_one_new _ _ _) (one_i64 _) (by unfold maxLen; omega) (by omega) (le_of_grown hg2 _) ?_; intro v' w4 hown' hgrow _)
        have ho4 := OwnI.snoc hown'
        have hg4 := grown_above (grown_trans hg2 (World.grownBy_alloc w2 _ _)) hgrow (fun g h => (OwnI.lt ho2 g h).1)
        have hc4 := (hc2.kept (World.grownBy_alloc w2 _ none) (by simp) (by simp)).kept hgrow (fun g h => by have := (OwnI.lt ho2 g h).1; omega) (fun h => by have := (OwnI.lt ho2 c h).1; omega)
        clear hown' hgrow
        go_wp2_with fail
        go_roundw
        case rel => exact ⟨j + 1, _, by omega, by go_num, Lib.hid ⟨by simp [hL.out.1], fun y hy => by
          rcases List.mem_append.1 hy with h | h
          · exact hL.out.2 y h
          · simp at h; omega⟩, ho4, hg4, hc4⟩
        case measure => simp [intOf]; omega
    · obtain rfl : j = k := by omega
      have hL2 := hL.out.2
      clear hll
      go_wp2_with fail
      go_ret
      exact ⟨_, _, rfl, hL.out.1, hL2, ho, hg, hc⟩
end Go.Proofs.YtnbjcelfdppkcaaGreat
namespace Go.Proofs.YtnbjcelfdppkcaaGreat
open Go.RowKit

theorem grown_set {w w1 : World} {row : Option Nat} (h : w.grownBy w1 row) {p : Addr} (hp : w.heap.size ≤ p.block) (u : Value) : w.grownBy (w1.setCell p u) row :=
  ⟨h.os, h.tape, h.output, by have := h.size; simpa using this, fun j hj hne => (Below.heap_setCell _ _ _ _ (by omega)).trans (h.block j hj hne)⟩
theorem grown_cell (w : World) (p : Addr) (u : Value) : w.grownBy (w.setCell p u) (some p.block) :=
  ⟨rfl, rfl, rfl, by simp, fun j _ hne => Below.heap_setCell _ _ _ _ (fun e => hne (by rw [e]))⟩
theorem Cur.set {W w : World} {v : Value} {n c : Nat} (h : Cur W v n c w) {p : Addr} (hp : W.heap.size ≤ p.block) (hc : p.block ≠ c) (u : Value) : Cur W v n c (w.setCell p u) :=
  h.kept (grown_cell w p u) (fun k hk => by cases hk; exact hp) (fun e => hc (by cases e; rfl))
end Go.Proofs.YtnbjcelfdppkcaaGreat
namespace Go.Proofs.YtnbjcelfdppkcaaGreat
open Go.RowKit

theorem get_getD (l : List Int) (i : Nat) (h : i < l.length) : l[i] = l.getD i 0 := by rw [List.getD_eq_getElem?_getD, List.getElem?_eq_getElem h]; rfl
def cellOk (x : Int) : Bool := decide (-1 ≤ x ∧ x ≤ 40)
def rowOk (c : Int) (r : List Int) : Bool := r.all cellOk && decide ((r.length : Int) = c)
/-- The table is valid. -/
def isT (c : Int) (ll : List (List Int)) : Bool := ll.all (rowOk c) && (decide (1 ≤ c ∧ c ≤ 5) && decide (ll.length ≤ 40))
theorem isT_row {c : Int} {ll : List (List Int)} (h : isT c ll = true) {k : Nat} (hk : k < ll.length) : ((ll.getD k []).length : Int) = c ∧ ∀ x ∈ ll.getD k [], -1 ≤ x ∧ x ≤ 40 := by
  unfold isT at h
  rw [Bool.and_eq_true, List.all_eq_true] at h
  have h1 := h.1 (ll.getD k []) (by rw [List.getD_eq_getElem?_getD, List.getElem?_eq_getElem hk]; exact List.getElem_mem _)
  unfold rowOk at h1
  rw [Bool.and_eq_true, List.all_eq_true, decide_eq_true_iff] at h1
  exact ⟨h1.2, fun x hx => by have := h1.1 x hx; unfold cellOk at this; simpa using this⟩
theorem isT_bd {c : Int} {ll : List (List Int)} (h : isT c ll = true) : 1 ≤ c ∧ c ≤ 5 ∧ ll.length ≤ 40 := by
  unfold isT at h
  simp at h
  exact ⟨h.2.1.1, h.2.1.2, h.2.2⟩
theorem all_snoc {α : Type} {l : List α} {p : α → Bool} {k : Nat} (h : k < l.length) (h1 : (l.take k).all p = true) (h2 : p l[k] = true) : (l.take (k + 1)).all p = true := by
  rw [List.take_succ_eq_append_getElem h, List.all_append, h1]; simp [h2]
theorem all_not {α : Type} {l : List α} {p : α → Bool} {k : Nat} (h : k < l.length) (h2 : p l[k] = false) : l.all p = false := by
  rw [List.all_eq_false]; exact ⟨l[k], List.getElem_mem _, by rw [h2]; simp⟩
set_option maxHeartbeats 800000 in
theorem l3Row_any (v : Value) (r : List Int) (c : Int) (w : World) (hr : ReadI w v r) (hl : r.length ≤ 1048576) :
    Calls Tryz.prog 27 #[v, .int .i64 c] w fun e w' => e = .returned (.bool (rowOk c r)) ∧ w = w' := by
  obtain ⟨a, cap, rfl, ha⟩ := hr
  have HA := Lib.hid ha
  clear ha
  go_enter Tryz.func27, Tryz.ntmps27
  go_wp2_with fail
  go_loop [5] (fun iv => ∃ k : Nat, k ≤ r.length ∧ iv = .int .i64 (k : Int) ∧ Hid ((r.take k).all cellOk = true)) (fun iv => r.length - (intOf iv).toNat)
  case atStart => exact ⟨0, by omega, rfl, Lib.hid rfl⟩
  case round =>
    obtain ⟨k, hk, rfl, hall⟩ := hrel
    by_cases hlt : k < r.length
    · obtain ⟨x, rfl, hx⟩ := HA.out k hlt
      have z0 : (0 : Int) ≤ (k : Int) := by omega
      have z1 : (k : Int) < (r.length : Int) := by omega
      have HI := Lib.hid (in_any r[k] (-1) 40 w)
      have HOK := Lib.hid (fun h => all_snoc (p := cellOk) hlt hall.out h)
      have HNO := Lib.hid (fun h => all_not (p := cellOk) hlt h)
      obtain ⟨y, hy⟩ : ∃ y : Int, r[k] = y := ⟨_, rfl⟩
      rw [hy] at hx HI HOK HNO
      clear hy
      by_cases hc : -1 ≤ y ∧ y ≤ 40
      · have hd : decide (-1 ≤ y ∧ y ≤ 40) = true := by simp [hc]
        rw [hd] at HI
        have HX := Lib.hid (HOK.out hd)
        clear hc hd
        go_wp2_with fail
        refine HI.out.mono ?_
        rintro e w' ⟨rfl, rfl⟩
        go_wp2_with fail
        go_round
        case rel => exact ⟨k + 1, by omega, by go_num, HX⟩
        case measure => simp [intOf]; omega
      · have hd : decide (-1 ≤ y ∧ y ≤ 40) = false := by simp only [hc, decide_false]
        rw [hd] at HI
        have HX := Lib.hid (HNO.out hd)
        clear hc hd
        go_wp2_with fail
        refine HI.out.mono ?_
        rintro e w' ⟨rfl, rfl⟩
        go_wp2_with fail
        go_ret
        exact ⟨ret_b (by unfold rowOk; rw [HX.out]; rfl), rfl⟩
    · obtain rfl : k = r.length := by omega
      have HX : Hid (r.all cellOk = true) := Lib.hid (by have := hall.out; rwa [List.take_length] at this)
      by_cases hc : (r.length : Int) = c
      · have hd : ((r.length : Int) == c) = true := by simp [hc]
        have HC := Lib.hid hc
        clear hc
        go_wp2_with fail
        go_ret
        exact ⟨ret_b (by unfold rowOk; rw [HX.out, decide_eq_true HC.out]; rfl), rfl⟩
      · have hd : ((r.length : Int) == c) = false := by simpa using hc
        have HC := Lib.hid hc
        clear hc
        go_wp2_with fail
        go_ret
        exact ⟨ret_b (by unfold rowOk; rw [HX.out, decide_eq_false HC.out]; rfl), rfl⟩
/-- The two cells of a boxed table, later. -/
theorem box2 {w wr : World} {c : Int} {v : Value} {T : TypeId} (hb : Below (w.alloc (.cells #[.int .i64 c, v] T)).heap.size (w.alloc (.cells #[.int .i64 c, v] T)) wr) :
    wr.cell? ⟨w.heap.size, 0, none⟩ = some (.int .i64 c) ∧ wr.cell? ⟨w.heap.size, 1, none⟩ = some v :=
  ⟨(hb.cell (p := ⟨w.heap.size, 0, none⟩) (by simp)).trans (World.cell?_alloc_mark w #[.int .i64 c, v] T (0, 0) 0), (hb.cell (p := ⟨w.heap.size, 1, none⟩) (by simp)).trans (World.cell?_alloc_mark w #[.int .i64 c, v] T (0, 0) 1)⟩
theorem zero2 (w : World) (T : TypeId) (a b : Value) : (w.alloc (.cells #[a, b] T)).cell? ⟨w.heap.size, 0, none⟩ = some a ∧ (w.alloc (.cells #[a, b] T)).cell? ⟨w.heap.size, 1, none⟩ = some b :=
  ⟨World.cell?_alloc_mark w #[a, b] T (0, 0) 0, World.cell?_alloc_mark w #[a, b] T (0, 0) 1⟩
theorem one_slice (a : Option Addr) (l c : Nat) : ∀ u ∈ [Value.slice a l c], u.oneCell' = true := by intro u hu; simp at hu; subst hu; rfl
set_option maxHeartbeats 800000 in
theorem isTable_any (c : Int) (v : Value) (ll : List (List Int)) (w : World) (hr : ReadSS w v ll) (hl : ll.length ≤ 1048576) (ht : ∀ i, i < ll.length → (ll.getD i []).length ≤ 1048576) :
    Calls Tryz.prog 10 #[.agg #[.int .i64 c, v]] w fun e w' => e = .returned (.bool (isT c ll)) ∧ Below w.heap.size w w' := by
  have HR := Lib.hid (fun w' (hb : Below w.heap.size w w') => hr.kept hb)
  obtain ⟨a, cap, rfl, ha⟩ := hr
  have HA := Lib.hid ha
  have HT := Lib.hid ht
  clear ha ht
  have hb1 := (Below.refl w.heap.size w).alloc (Nat.le_refl _) (.cells #[.int .i64 c, .slice a ll.length cap] 26)
  have HI := Lib.hid (fun w' => in_any c 1 5 w')
  go_enter Tryz.func10, Tryz.ntmps10
  go_wp2_with fail
  go_loopw [3] (fun iv wr => ∃ k : Nat, k ≤ ll.length ∧ iv = .int .i64 (k : Int) ∧ Hid ((ll.take k).all (rowOk c) = true) ∧ Below (w.alloc (.cells #[.int .i64 c, .slice a ll.length cap] 26)).heap.size (w.alloc (.cells #[.int .i64 c, .slice a ll.length cap] 26)) wr) (fun iv _ => ll.length - (intOf iv).toNat)
  case atStart => exact ⟨0, by omega, rfl, Lib.hid rfl, Below.refl _ _⟩
  case round =>
    obtain ⟨k, hk, rfl, hall, hb⟩ := hrel
    obtain ⟨hc0, hc1⟩ := box2 hb
    have hb2 := hb1.trans (hb.mono hb1.size)
    have HB := Lib.hid hb
    clear hb
    by_cases hlt : k < ll.length
    · obtain ⟨x, u, rfl, hx, hu⟩ := HA.out k hlt
      have hy := (hb2.cell (World.block_lt_of_cell? w _ hx)).trans hx
      have z0 : (0 : Int) ≤ (k : Int) := by omega
      have z1 : (k : Int) < (ll.length : Int) := by omega
      have hg : ll[k] = ll.getD k [] := by rw [List.getD_eq_getElem?_getD, List.getElem?_eq_getElem hlt]; rfl
      have HQ := Lib.hid (fun n => (l3Row_any u (ll.getD k []) c (wr.drewN n) ((hu.kept hb2).kept (below_drewN (Below.refl _ _) n)) (HT.out k hlt)).mono fun e w' (h : e = _ ∧ _ = w') => And.intro h.1 h.2.symm)
      have HOK := Lib.hid (fun h => all_snoc (p := rowOk c) hlt hall.out h)
      have HNO := Lib.hid (fun h => all_not (p := rowOk c) hlt h)
      rw [hg] at HOK HNO
      obtain ⟨r, hrr⟩ : ∃ r, ll.getD k [] = r := ⟨_, rfl⟩
      rw [hrr] at HQ HOK HNO
      clear hx hu hg hrr
      cases hro : rowOk c r with
      | true =>
        rw [hro] at HQ
        have HX := Lib.hid (HOK.out hro)
        clear hro
        go_wp2_with fail
        go_quiet ((go_at_call 27; exact Calls.quiet_of_same (HQ.out _)))
        go_wp2_with fail
        go_roundw
        case rel => exact ⟨k + 1, by omega, by go_num, HX, below_drewN HB.out _⟩
        case measure => simp [intOf]; omega
      | false =>
        rw [hro] at HQ
        have HX := Lib.hid (HNO.out hro)
        clear hro
        go_wp2_with fail
        go_quiet ((go_at_call 27; exact Calls.quiet_of_same (HQ.out _)))
        go_wp2_with fail
        go_ret
        exact ⟨ret_b (by unfold isT; rw [HX.out]; rfl), below_drewN hb2 _⟩
    · obtain rfl : k = ll.length := by omega
      have HX : Hid (ll.all (rowOk c) = true) := Lib.hid (by have := hall.out; rwa [List.take_length] at this)
      by_cases hc : 1 ≤ c ∧ c ≤ 5
      · have hd : decide (1 ≤ c ∧ c ≤ 5) = true := by simp [hc]
        rw [hd] at HI
        have HC := Lib.hid hd
        clear hc hd
        go_wp2_with fail
        refine (HI.out _).mono ?_
        rintro e w' ⟨rfl, rfl⟩
        go_wp2_with fail
        go_ret
        exact ⟨ret_b (by unfold isT; rw [HX.out, HC.out, Bool.true_and, Bool.true_and, decide_eq_decide]; omega), hb2⟩
      · have hd : decide (1 ≤ c ∧ c ≤ 5) = false := by simp only [hc, decide_false]
        rw [hd] at HI
        have HC := Lib.hid hd
        clear hc hd
        go_wp2_with fail
        refine (HI.out _).mono ?_
        rintro e w' ⟨rfl, rfl⟩
        go_wp2_with fail
        go_ret
        exact ⟨ret_b (by unfold isT; rw [HC.out]; simp), hb2⟩

/-- The values of a column. -/
def colOf (c : Int) (ll : List (List Int)) (q : Int) : List Int := if isT c ll = true ∧ 0 ≤ q ∧ q ≤ c - 1 then ll.map (fun r => r.getD q.toNat 0) else []
theorem colOf_len (c : Int) (ll : List (List Int)) (q : Int) : (colOf c ll q).length ≤ ll.length := by
  unfold colOf; split <;> simp
theorem map_take_succ {α β : Type} (l : List α) (f : α → β) (d : α) (k : Nat) (h : k < l.length) : (l.take (k + 1)).map f = (l.take k).map f ++ [f (l.getD k d)] := by
  rw [take_succ_getD l d k h, List.map_append]; rfl
end Go.Proofs.YtnbjcelfdppkcaaGreat
namespace Go.Proofs.YtnbjcelfdppkcaaGreat
open Go.RowKit

/-- The cells of two boxed tables, later. -/
theorem box4 {w wr : World} {c c' : Int} {v v' : Value} {T : TypeId} (hb : Below ((w.alloc (.cells #[.int .i64 c, v] T)).alloc (.cells #[.int .i64 c', v'] T)).heap.size ((w.alloc (.cells #[.int .i64 c, v] T)).alloc (.cells #[.int .i64 c', v'] T)) wr) :
    (wr.cell? ⟨w.heap.size, 0, none⟩ = some (.int .i64 c) ∧ wr.cell? ⟨w.heap.size, 1, none⟩ = some v) ∧ wr.cell? ⟨w.heap.size + 1, 0, none⟩ = some (.int .i64 c') ∧ wr.cell? ⟨w.heap.size + 1, 1, none⟩ = some v' := by
  have h1 := box2 (w := w) ((Below.refl _ _).alloc (Nat.le_refl _) (.cells #[.int .i64 c', v'] T) |>.trans (hb.mono (by simp)))
  have h2 := box2 (w := w.alloc (.cells #[.int .i64 c, v] T)) hb
  exact ⟨h1, by simpa using h2⟩
/-- What is held of a region in which tables are loaded and copied: the cells of two boxes, and the second table's rows. -/
theorem keepT {w5 w6 w7 : World} {p q r t : Addr} {u0 u1 u2 u3 : Value} {vx : Value} {ll : List (List Int)} (h : (w6.cell? p = some u0 ∧ w6.cell? q = some u1) ∧ (w6.cell? r = some u2 ∧ w6.cell? t = some u3) ∧ ReadSS w6 vx ll ∧ Below w5.heap.size w5 w6) (hb : Below w6.heap.size w6 w7) :
    (w7.cell? p = some u0 ∧ w7.cell? q = some u1) ∧ (w7.cell? r = some u2 ∧ w7.cell? t = some u3) ∧ ReadSS w7 vx ll ∧ Below w5.heap.size w5 w7 := by
  have k : ∀ {a : Addr} {u : Value}, w6.cell? a = some u → w7.cell? a = some u := fun e => (hb.cell (World.block_lt_of_cell? w6 _ e)).trans e
  exact ⟨⟨k h.1.1, k h.1.2⟩, ⟨k h.2.1.1, k h.2.1.2⟩, h.2.2.1.kept hb, h.2.2.2.trans (hb.mono h.2.2.2.size)⟩
theorem keepQ {w5 w6 w7 : World} {p q r t : Addr} {u0 u1 u2 u3 : Value} (h : ((w6.cell? p = some u0 ∧ w6.cell? q = some u1) ∧ w6.cell? r = some u2 ∧ w6.cell? t = some u3) ∧ Below w5.heap.size w5 w6) (hb : Below w6.heap.size w6 w7) :
    ((w7.cell? p = some u0 ∧ w7.cell? q = some u1) ∧ w7.cell? r = some u2 ∧ w7.cell? t = some u3) ∧ Below w5.heap.size w5 w7 := by
  have k : ∀ {a : Addr} {u : Value}, w6.cell? a = some u → w7.cell? a = some u := fun e => (hb.cell (World.block_lt_of_cell? w6 _ e)).trans e
  exact ⟨⟨⟨k h.1.1.1, k h.1.1.2⟩, k h.1.2.1, k h.1.2.2⟩, h.2.trans (hb.mono h.2.size)⟩
end Go.Proofs.YtnbjcelfdppkcaaGreat
namespace Go.Proofs.YtnbjcelfdppkcaaGreat
open Go.RowKit

def cnt (x : Int) : Nat := (mems x).length
theorem cnt_le (x : Int) : cnt x ≤ 5 := mems_len x
def partB (x y : Int) : Bool := valB x && valB y && (bits .and .i64 x y == x)
/-- The sets below m with s columns. -/
def ofSize (s m : Nat) : List Int := ((List.range m).filter fun (x : Nat) => cnt (x : Int) == s).map fun (i : Nat) => (i : Int)
theorem ofSize_succ (s m : Nat) : ofSize s (m + 1) = if (cnt (m : Int) == s) = true then ofSize s m ++ [(m : Int)] else ofSize s m := by
  unfold ofSize
  rw [List.range_succ, List.filter_append, List.map_append]
  by_cases h : (cnt (m : Int) == s) = true
  · rw [if_pos h]; simp [h]
  · rw [if_neg h]; simp [h]
theorem ofSize_len (s m : Nat) : (ofSize s m).length ≤ m := by
  have := List.length_filter_le (fun (x : Nat) => cnt (x : Int) == s) (List.range m)
  simpa [ofSize] using this
def bySize (N s : Nat) : List Int := (List.range s).flatMap fun i => ofSize i (2 ^ N)
theorem bySize_succ (N s : Nat) : bySize N (s + 1) = bySize N s ++ ofSize s (2 ^ N) := by simp [bySize, List.range_succ]
theorem bySize_len (N s : Nat) : (bySize N s).length ≤ s * 2 ^ N := by
  induction s with
  | zero => simp [bySize]
  | succ s ih => rw [bySize_succ, List.length_append, Nat.succ_mul]; have := ofSize_len s (2 ^ N); omega
/-- All sets of the first n columns, by size. -/
def parts (n : Int) : List Int := if 0 ≤ n ∧ n ≤ 5 then bySize n.toNat (n.toNat + 1) else []
theorem parts_len (n : Int) : (parts n).length ≤ 1000 := by
  unfold parts
  split
  · rename_i h
    have a1 := bySize_len n.toNat (n.toNat + 1)
    have a2 : (2 : Nat) ^ n.toNat ≤ 2 ^ 5 := Nat.pow_le_pow_right (by omega) (by omega)
    have a3 : (n.toNat + 1) * 2 ^ n.toNat ≤ 6 * 32 := Nat.mul_le_mul (by omega) a2
    omega
  · simp

end Go.Proofs.YtnbjcelfdppkcaaGreat
