/- Texts of this claim, merged: Tabs3, Tabs4, SpecT, DepA, DepG. Conditions: as stated. -/
import Derived.Test.YtnbjcelfdppkcadGreatXz2
namespace Go.Proofs.YtnbjcelfdppkcadGreat
open Go.RowKit

theorem info3j : (Tryz.prog.info? 3).map (fun i => (i.zero, i.size, i.bytes)) = some (some (.int .i64 0), 1, 8) := by kernel_rfl
theorem infoSj : (Tryz.prog.info? 40).map (fun i => (i.zero, i.size, i.bytes)) = some (some (.slice none 0 0), 1, 24) := by kernel_rfl
theorem OwnI.full {w : World} {B : Nat} {v : Value} {n : Nat} (h : w.ownsRow B 3 1 v n (madeCells (Value.cells (.int .i64 0)) (n * 1)).toList) : OwnI w B v (List.replicate n 0) := by
  unfold OwnI
  have e : (madeCells (Value.cells (.int .i64 0)) (n * 1)).toList = intsV (List.replicate n 0) := by
    rw [show Value.cells (.int .i64 0) = #[.int .i64 0] from rfl, toList_madeCells_one]; simp [intsV]
  rw [e] at h; rw [List.length_replicate]; exact h
theorem copy_step (l : List Int) (k : Nat) (h : k < l.length) : (l.take k ++ List.replicate (l.length - k) 0).set k l[k] = l.take (k + 1) ++ List.replicate (l.length - (k + 1)) 0 := by
  rw [List.set_append, if_neg (by simp; omega), List.take_succ_eq_append_getElem h, List.append_assoc]
  congr 1
  rw [show k - (l.take k).length = 0 by simp; omega, show l.length - k = (l.length - (k + 1)) + 1 by omega, List.replicate_succ]
  rfl
/-- A row of ints in memory of the call's own, with its blocks' bounds. -/
def RetJ (l : List Int) (w : World) (e : Ending) (w' : World) : Prop := ∃ v, e = .returned v ∧ OwnI w' w.heap.size v l ∧ Below w.heap.size w w'
theorem copy_stepL (l : List (List Int)) (k : Nat) (h : k < l.length) : (l.take k ++ List.replicate (l.length - k) []).set k (l.getD k []) = l.take (k + 1) ++ List.replicate (l.length - (k + 1)) [] := by
  rw [List.set_append, if_neg (by simp; omega), take_succ_getD l [] k h, List.append_assoc]
  congr 1
  rw [show k - (l.take k).length = 0 by simp; omega, show l.length - k = (l.length - (k + 1)) + 1 by omega, List.replicate_succ]
  rfl
end Go.Proofs.YtnbjcelfdppkcadGreat
namespace Go.Proofs.YtnbjcelfdppkcadGreat
open Go.RowKit

/-- What holds at row k of an owned slice of rows, and what becomes of the whole when that row alone is written. -/
theorem OwnSS.at {w : World} {B C : Nat} {v : Value} {ll : List (List Int)} (h : OwnSS w B C v ll) {k : Nat} (hk : k < ll.length) :
    ∃ g cap u, v = .slice (some ⟨g, 0, none⟩) ll.length cap ∧ w.cell? ⟨g, k, none⟩ = some u ∧ OwnI w B u (ll.getD k []) ∧ (∀ q, u.ownBlock = some q → q < C) ∧
      ∀ w' l', OwnI w' B u l' → w.grownBy w' u.ownBlock → OwnSS w' B C v (ll.set k l') := by
  obtain ⟨V, o1, o2, o3, o4⟩ := h
  rcases ownsRow_shape o1 with ⟨rfl, hn⟩ | ⟨g, cap, rfl, -, -, -⟩
  · omega
  · have hap : ∀ i, i < ll.length → (V i).ownBlock ≠ some g := fun i hi => row_apart o1 (o3 i hi).1 g rfl
    refine ⟨g, cap, V k, rfl, ?_, (o3 k hk).1, (o3 k hk).2, fun w' l' h1 h2 => ⟨V, ?_, o2, fun i hi => ?_, ?_⟩⟩
    · rw [World.ownsRow.cellAt o1 k (by omega)]; simp [hk]
    · rw [List.length_set]
      exact World.ownsRow.kept o1 h2 (.inr (fun e => hap k hk (by rw [← e]; rfl)))
    · rw [List.length_set] at hi
      rw [getD_set _ _ _ _ _ hk]
      by_cases hik : i = k
      · subst hik; rw [if_pos rfl]; exact ⟨h1, (o3 i hi).2⟩
      · rw [if_neg hik]
        refine ⟨(o3 i hi).1.keptBy h2 (fun q hq hq2 => ?_), (o3 i hi).2⟩
        rcases Nat.lt_or_gt_of_ne hik with hlt | hgt
        · exact o4 i k hlt hk q hq2 hq
        · exact o4 k i hgt hi q hq hq2
    · rw [List.length_set]; exact o4
/-- The rows ll, the first i of them written over with k, k + 1, and so on. -/
def mk (k : Int) (ll : List (List Int)) (i : Nat) : List (List Int) := (List.range ll.length).map fun j => if j < i then upFrom (k + (tot (ll.take j) : Int)) (ll.getD j []).length else ll.getD j []
theorem mk_len (k : Int) (ll : List (List Int)) (i : Nat) : (mk k ll i).length = ll.length := by simp [mk]
theorem mk_get (k : Int) (ll : List (List Int)) (i j : Nat) (hj : j < ll.length) : (mk k ll i).getD j [] = if j < i then upFrom (k + (tot (ll.take j) : Int)) (ll.getD j []).length else ll.getD j [] := by
  rw [List.getD_eq_getElem?_getD, List.getElem?_eq_getElem (by rw [mk_len]; exact hj)]; simp [mk]
theorem ext_getD {a b : List (List Int)} (hl : a.length = b.length) (h : ∀ j, j < a.length → a.getD j [] = b.getD j []) : a = b := by
  apply List.ext_getElem hl
  intro j h1 h2
  have := h j h1
  rwa [List.getD_eq_getElem?_getD, List.getD_eq_getElem?_getD, List.getElem?_eq_getElem h1, List.getElem?_eq_getElem h2] at this
theorem mk_zero (k : Int) (ll : List (List Int)) : mk k ll 0 = ll :=
  ext_getD (mk_len _ _ _) fun j hj => by rw [mk_len] at hj; rw [mk_get _ _ _ _ hj, if_neg (by omega)]
theorem mk_set (k : Int) (ll : List (List Int)) (i : Nat) (hi : i < ll.length) : (mk k ll i).set i (upFrom (k + (tot (ll.take i) : Int)) (ll.getD i []).length) = mk k ll (i + 1) := by
  refine ext_getD (by rw [List.length_set, mk_len, mk_len]) fun j hj => ?_
  rw [List.length_set, mk_len] at hj
  rw [getD_set _ _ _ _ _ (by rw [mk_len]; exact hi), mk_get _ _ _ _ hj, mk_get _ _ _ _ hj]
  by_cases h : j = i
  · subst h; rw [if_pos rfl, if_pos (by omega)]
  · rw [if_neg h]
    by_cases h2 : j < i
    · rw [if_pos h2, if_pos (by omega)]
    · rw [if_neg h2, if_neg (by omega)]
/-- The rows written over. -/
def upRows (k : Int) (ll : List (List Int)) : List (List Int) := mk k ll ll.length
theorem upRows_len (k : Int) (ll : List (List Int)) : (upRows k ll).length = ll.length := mk_len _ _ _
theorem upRows_get (k : Int) (ll : List (List Int)) (j : Nat) (hj : j < ll.length) : (upRows k ll).getD j [] = upFrom (k + (tot (ll.take j) : Int)) (ll.getD j []).length := by
  unfold upRows; rw [mk_get _ _ _ _ hj, if_pos hj]
def MarkSS (k : Int) (ll : List (List Int)) (B C : Nat) (v : Value) (w : World) (e : Ending) (w' : World) : Prop := e = .returned (.int .i64 (k + (tot ll : Int))) ∧ OwnSS w' B C v (upRows k ll) ∧ Mid B C w w'
def MarkT (k : Int) (ll : List (List Int)) (B C : Nat) (v : Value) (w : World) (e : Ending) (w' : World) : Prop := e = .returned (.int .i64 (k + (tot ll : Int))) ∧ OwnSS w' B C v (upRows k ll) ∧ Mid B C w w'
/-! ### Rows of ints with their bounds -/
def OwnIR (w : World) (B C : Nat) (v : Value) (l : List Int) : Prop := OwnI w B v l ∧ ∀ g, v.ownBlock = some g → g < C
theorem OwnI.range {w : World} {B : Nat} {v : Value} {l : List Int} (h : OwnI w B v l) : OwnIR w B w.heap.size v l := ⟨h, fun g hg => (h.lt g hg).2⟩
theorem OwnIR.same {w w' : World} {B C : Nat} {v : Value} {l : List Int} (h : OwnIR w B C v l) (hs : Same B C w w') : OwnIR w' B C v l := ⟨h.1.same fun g hg => hs g (h.1.lt g hg).1 (h.2 g hg), h.2⟩
theorem OwnIR.read {w : World} {B C : Nat} {v : Value} {l : List Int} (h : OwnIR w B C v l) : ReadI w v l := h.1.read
def MarkI (k : Int) (l : List Int) (B C : Nat) (v : Value) (w : World) (e : Ending) (w' : World) : Prop := e = .returned (.int .i64 (k + (l.length : Int))) ∧ OwnIR w' B C v (upFrom k l.length) ∧ Mid B C w w'
end Go.Proofs.YtnbjcelfdppkcadGreat
namespace Go.Proofs.YtnbjcelfdppkcadGreat
open Go.RowKit

theorem get_getD (l : List Int) (i : Nat) (h : i < l.length) : l[i] = l.getD i 0 := by rw [List.getD_eq_getElem?_getD, List.getElem?_eq_getElem h]; rfl
def cellOk (x : Int) : Bool := decide (-1 ≤ x ∧ x ≤ 40)
def rowOk (c : Int) (r : List Int) : Bool := r.all cellOk && decide ((r.length : Int) = c)
/-- The table is valid. -/
def isT (c : Int) (ll : List (List Int)) : Bool := ll.all (rowOk c) && (decide (1 ≤ c ∧ c ≤ 5) && decide (ll.length ≤ 40))
theorem isT_row {c : Int} {ll : List (List Int)} (h : isT c ll = true) {k : Nat} (hk : k < ll.length) : ((ll.getD k []).length : Int) = c ∧ ∀ x ∈ ll.getD k [], -1 ≤ x ∧ x ≤ 40 := by
  unfold isT at h
  rw [Bool.and_eq_true, List.all_eq_true] at h
  have h1 := h.1 (ll.getD k []) (by rw [List.getD_eq_getElem?_getD, List.getElem?_eq_getElem hk]; exact List.getElem_mem _)
  unfold rowOk at h1
  rw [Bool.and_eq_true, List.all_eq_true, decide_eq_true_iff] at h1
  exact ⟨h1.2, fun x hx => by have := h1.1 x hx; unfold cellOk at this; simpa using this⟩
theorem isT_bd {c : Int} {ll : List (List Int)} (h : isT c ll = true) : 1 ≤ c ∧ c ≤ 5 ∧ ll.length ≤ 40 := by
  unfold isT at h
  simp at h
  exact ⟨h.2.1.1, h.2.1.2, h.2.2⟩
theorem all_snoc {α : Type} {l : List α} {p : α → Bool} {k : Nat} (h : k < l.length) (h1 : (l.take k).all p = true) (h2 : p l[k] = true) : (l.take (k + 1)).all p = true := by
  rw [List.take_succ_eq_append_getElem h, List.all_append, h1]; simp [h2]
theorem all_not {α : Type} {l : List α} {p : α → Bool} {k : Nat} (h : k < l.length) (h2 : p l[k] = false) : l.all p = false := by
  rw [List.all_eq_false]; exact ⟨l[k], List.getElem_mem _, by rw [h2]; simp⟩
set_option maxHeartbeats 800000 in
theorem l3Row_any (v : Value) (r : List Int) (c : Int) (w : World) (hr : ReadI w v r) (hl : r.length ≤ 1048576) :
    Calls Tryz.prog 95 #[v, .int .i64 c] w fun e w' => e = .returned (.bool (rowOk c r)) ∧ w = w' := by
  obtain ⟨a, cap, rfl, ha⟩ := hr
  have HA := Lib.hid ha
  clear ha
  go_enter Tryz.func95, Tryz.ntmps95
  go_wp2_with fail
  go_loop [5] (fun iv => ∃ k : Nat, k ≤ r.length ∧ iv = .int .i64 (k : Int) ∧ Hid ((r.take k).all cellOk = true)) (fun iv => r.length - (intOf iv).toNat)
  case atStart => exact ⟨0, by omega, rfl, Lib.hid rfl⟩
  case round =>
    obtain ⟨k, hk, rfl, hall⟩ := hrel
    by_cases hlt : k < r.length
    · obtain ⟨x, rfl, hx⟩ := HA.out k hlt
      have z0 : (0 : Int) ≤ (k : Int) := by omega
      have z1 : (k : Int) < (r.length : Int) := by omega
      have HI := Lib.hid (in_any r[k] (-1) 40 w)
      have HOK := Lib.hid (fun h => all_snoc (p := cellOk) hlt hall.out h)
      have HNO := Lib.hid (fun h => all_not (p := cellOk) hlt h)
      obtain ⟨y, hy⟩ : ∃ y : Int, r[k] = y := ⟨_, rfl⟩
      rw [hy] at hx HI HOK HNO
      clear hy
      by_cases hc : -1 ≤ y ∧ y ≤ 40
      · have hd : decide (-1 ≤ y ∧ y ≤ 40) = true := by simp [hc]
        rw [hd] at HI
        have HX := Lib.hid (HOK.out hd)
        clear hc hd
        go_wp2_with fail
        refine HI.out.mono ?_
        rintro e w' ⟨rfl, rfl⟩
        go_wp2_with fail
        go_round
        case rel => exact ⟨k + 1, by omega, by go_num, HX⟩
        case measure => simp [intOf]; omega
      · have hd : decide (-1 ≤ y ∧ y ≤ 40) = false := by simp only [hc, decide_false]
        rw [hd] at HI
        have HX := Lib.hid (HNO.out hd)
        clear hc hd
        go_wp2_with fail
        refine HI.out.mono ?_
        rintro e w' ⟨rfl, rfl⟩
        go_wp2_with fail
        go_ret
        exact ⟨ret_b (by unfold rowOk; rw [HX.out]; rfl), rfl⟩
    · obtain rfl : k = r.length := by omega
      have HX : Hid (r.all cellOk = true) := Lib.hid (by have := hall.out; rwa [List.take_length] at this)
      by_cases hc : (r.length : Int) = c
      · have hd : ((r.length : Int) == c) = true := by simp [hc]
        have HC := Lib.hid hc
        clear hc
        go_wp2_with fail
        go_ret
        exact ⟨ret_b (by unfold rowOk; rw [HX.out, decide_eq_true HC.out]; rfl), rfl⟩
      · have hd : ((r.length : Int) == c) = false := by simpa using hc
        have HC := Lib.hid hc
        clear hc
        go_wp2_with fail
        go_ret
        exact ⟨ret_b (by unfold rowOk; rw [HX.out, decide_eq_false HC.out]; rfl), rfl⟩
/-- The two cells of a boxed table, later. -/
theorem box2 {w wr : World} {c : Int} {v : Value} {T : TypeId} (hb : Below (w.alloc (.cells #[.int .i64 c, v] T)).heap.size (w.alloc (.cells #[.int .i64 c, v] T)) wr) :
    wr.cell? ⟨w.heap.size, 0, none⟩ = some (.int .i64 c) ∧ wr.cell? ⟨w.heap.size, 1, none⟩ = some v :=
  ⟨(hb.cell (p := ⟨w.heap.size, 0, none⟩) (by simp)).trans (World.cell?_alloc_mark w #[.int .i64 c, v] T (0, 0) 0), (hb.cell (p := ⟨w.heap.size, 1, none⟩) (by simp)).trans (World.cell?_alloc_mark w #[.int .i64 c, v] T (0, 0) 1)⟩
theorem zero2 (w : World) (T : TypeId) (a b : Value) : (w.alloc (.cells #[a, b] T)).cell? ⟨w.heap.size, 0, none⟩ = some a ∧ (w.alloc (.cells #[a, b] T)).cell? ⟨w.heap.size, 1, none⟩ = some b :=
  ⟨World.cell?_alloc_mark w #[a, b] T (0, 0) 0, World.cell?_alloc_mark w #[a, b] T (0, 0) 1⟩
theorem one_slice (a : Option Addr) (l c : Nat) : ∀ u ∈ [Value.slice a l c], u.oneCell' = true := by intro u hu; simp at hu; subst hu; rfl
set_option maxHeartbeats 800000 in
theorem isTable_any (c : Int) (v : Value) (ll : List (List Int)) (w : World) (hr : ReadSS w v ll) (hl : ll.length ≤ 1048576) (ht : ∀ i, i < ll.length → (ll.getD i []).length ≤ 1048576) :
    Calls Tryz.prog 66 #[.agg #[.int .i64 c, v]] w fun e w' => e = .returned (.bool (isT c ll)) ∧ Below w.heap.size w w' := by
  have HR := Lib.hid (fun w' (hb : Below w.heap.size w w') => hr.kept hb)
  obtain ⟨a, cap, rfl, ha⟩ := hr
  have HA := Lib.hid ha
  have HT := Lib.hid ht
  clear ha ht
  have hb1 := (Below.refl w.heap.size w).alloc (Nat.le_refl _) (.cells #[.int .i64 c, .slice a ll.length cap] 29)
  have HI := Lib.hid (fun w' => in_any c 1 5 w')
  go_enter Tryz.func66, Tryz.ntmps66
  go_wp2_with fail
  go_loopw [3] (fun iv wr => ∃ k : Nat, k ≤ ll.length ∧ iv = .int .i64 (k : Int) ∧ Hid ((ll.take k).all (rowOk c) = true) ∧ Below (w.alloc (.cells #[.int .i64 c, .slice a ll.length cap] 29)).heap.size (w.alloc (.cells #[.int .i64 c, .slice a ll.length cap] 29)) wr) (fun iv _ => ll.length - (intOf iv).toNat)
  case atStart => exact ⟨0, by omega, rfl, Lib.hid rfl, Below.refl _ _⟩
  case round =>
    obtain ⟨k, hk, rfl, hall, hb⟩ := hrel
    obtain ⟨hc0, hc1⟩ := box2 hb
    have hb2 := hb1.trans (hb.mono hb1.size)
    have HB := Lib.hid hb
    clear hb
    by_cases hlt : k < ll.length
    · obtain ⟨x, u, rfl, hx, hu⟩ := HA.out k hlt
      have hy := (hb2.cell (World.block_lt_of_cell? w _ hx)).trans hx
      have z0 : (0 : Int) ≤ (k : Int) := by omega
      have z1 : (k : Int) < (ll.length : Int) := by omega
      have hg : ll[k] = ll.getD k [] := by rw [List.getD_eq_getElem?_getD, List.getElem?_eq_getElem hlt]; rfl
      have HQ := Lib.hid (fun n => (l3Row_any u (ll.getD k []) c (wr.drewN n) ((hu.kept hb2).kept (below_drewN (Below.refl _ _) n)) (HT.out k hlt)).mono fun e w' (h : e = _ ∧ _ = w') => And.intro h.1 h.2.symm)
      have HOK := Lib.hid (fun h => all_snoc (p := rowOk c) hlt hall.out h)
      have HNO := Lib.hid (fun h => all_not (p := rowOk c) hlt h)
      rw [hg] at HOK HNO
      obtain ⟨r, hrr⟩ : ∃ r, ll.getD k [] = r := ⟨_, rfl⟩
      rw [hrr] at HQ HOK HNO
      clear hx hu hg hrr
      cases hro : rowOk c r with
      | true =>
        rw [hro] at HQ
        have HX := Lib.hid (HOK.out hro)
        clear hro
        go_wp2_with fail
        go_quiet ((go_at_call 95; exact Calls.quiet_of_same (HQ.out _)))
        go_wp2_with fail
        go_roundw
        case rel => exact ⟨k + 1, by omega, by go_num, HX, below_drewN HB.out _⟩
        case measure => simp [intOf]; omega
      | false =>
        rw [hro] at HQ
        have HX := Lib.hid (HNO.out hro)
        clear hro
        go_wp2_with fail
        go_quiet ((go_at_call 95; exact Calls.quiet_of_same (HQ.out _)))
        go_wp2_with fail
        go_ret
        exact ⟨ret_b (by unfold isT; rw [HX.out]; rfl), below_drewN hb2 _⟩
    · obtain rfl : k = ll.length := by omega
      have HX : Hid (ll.all (rowOk c) = true) := Lib.hid (by have := hall.out; rwa [List.take_length] at this)
      by_cases hc : 1 ≤ c ∧ c ≤ 5
      · have hd : decide (1 ≤ c ∧ c ≤ 5) = true := by simp [hc]
        rw [hd] at HI
        have HC := Lib.hid hd
        clear hc hd
        go_wp2_with fail
        refine (HI.out _).mono ?_
        rintro e w' ⟨rfl, rfl⟩
        go_wp2_with fail
        go_ret
        exact ⟨ret_b (by unfold isT; rw [HX.out, HC.out, Bool.true_and, Bool.true_and, decide_eq_decide]; omega), hb2⟩
      · have hd : decide (1 ≤ c ∧ c ≤ 5) = false := by simp only [hc, decide_false]
        rw [hd] at HI
        have HC := Lib.hid hd
        clear hc hd
        go_wp2_with fail
        refine (HI.out _).mono ?_
        rintro e w' ⟨rfl, rfl⟩
        go_wp2_with fail
        go_ret
        exact ⟨ret_b (by unfold isT; rw [HC.out]; simp), hb2⟩

/-- The values of a column. -/
def colOf (c : Int) (ll : List (List Int)) (q : Int) : List Int := if isT c ll = true ∧ 0 ≤ q ∧ q ≤ c - 1 then ll.map (fun r => r.getD q.toNat 0) else []
theorem colOf_len (c : Int) (ll : List (List Int)) (q : Int) : (colOf c ll q).length ≤ ll.length := by
  unfold colOf; split <;> simp
theorem map_take_succ {α β : Type} (l : List α) (f : α → β) (d : α) (k : Nat) (h : k < l.length) : (l.take (k + 1)).map f = (l.take k).map f ++ [f (l.getD k d)] := by
  rw [take_succ_getD l d k h, List.map_append]; rfl
end Go.Proofs.YtnbjcelfdppkcadGreat
namespace Go.Proofs.YtnbjcelfdppkcadGreat
open Go.RowKit

/-- A dependency of n columns. -/
def depB (n l r : Int) : Bool := decide (1 ≤ n ∧ n ≤ 5) && (isA n l && decide (0 ≤ r ∧ r ≤ n - 1))
theorem depB_iff {n l r : Int} : depB n l r = true ↔ (1 ≤ n ∧ n ≤ 5) ∧ isA n l = true ∧ 0 ≤ r ∧ r ≤ n - 1 := by unfold depB; simp
set_option maxHeartbeats 800000 in
theorem isDep_any (n l r : Int) (w : World) :
    Calls Tryz.prog 28 #[.int .i64 n, .agg #[.int .i64 l, .int .i64 r]] w fun e w' => e = .returned (.bool (depB n l r)) ∧ Below w.heap.size w w' := by
  have hb1 := (Below.refl w.heap.size w).alloc (Nat.le_refl _) (.cells #[.int .i64 l, .int .i64 r] 35)
  obtain ⟨c0, c1⟩ := zero2 w 35 (.int .i64 l) (.int .i64 r)
  by_cases hn : 1 ≤ n ∧ n ≤ 5
  · have h1 : decide (1 ≤ n ∧ n ≤ 5) = true := decide_eq_true hn
    have h0 : 0 ≤ n := by omega
    have h2 : n ≤ 5 := hn.2
    cases ha : isA n l with
    | true =>
      have HE : Hid (depB n l r = (decide (0 ≤ r) && decide (r ≤ n - 1))) := Lib.hid (by unfold depB; rw [h1, ha]; simp)
      have HA := Lib.hid (isA_any n l)
      have HI := Lib.hid (fun w' => in_any n 1 5 w')
      have HR := Lib.hid (fun w' => in_any r 0 (n - 1) w')
      rw [h1] at HI
      rw [ha] at HA
      clear ha hn h1
      go_enter Tryz.func28, Tryz.ntmps28
      go_wp2_with fail
      refine (HI.out _).mono ?_
      rintro e w' ⟨rfl, rfl⟩
      go_wp2_with fail
      refine (HA.out _).mono ?_
      rintro e w' ⟨rfl, rfl⟩
      go_wp2_with fail
      refine (HR.out _).mono ?_
      rintro e w' ⟨rfl, rfl⟩
      go_wp2_with fail
      go_ret
      exact ⟨ret_b HE.out, hb1⟩
    | false =>
      have HE : Hid (depB n l r = false) := Lib.hid (by unfold depB; rw [ha]; simp)
      have HA := Lib.hid (isA_any n l)
      have HI := Lib.hid (fun w' => in_any n 1 5 w')
      rw [h1] at HI
      rw [ha] at HA
      clear ha hn h1
      go_enter Tryz.func28, Tryz.ntmps28
      go_wp2_with fail
      refine (HI.out _).mono ?_
      rintro e w' ⟨rfl, rfl⟩
      go_wp2_with fail
      refine (HA.out _).mono ?_
      rintro e w' ⟨rfl, rfl⟩
      go_wp2_with fail
      go_ret
      exact ⟨ret_b HE.out, hb1⟩
  · have h1 : decide (1 ≤ n ∧ n ≤ 5) = false := decide_eq_false hn
    have HE : Hid (depB n l r = false) := Lib.hid (by unfold depB; rw [h1]; simp)
    have HI := Lib.hid (fun w' => in_any n 1 5 w')
    rw [h1] at HI
    clear hn h1
    go_enter Tryz.func28, Tryz.ntmps28
    go_wp2_with fail
    refine (HI.out _).mono ?_
    rintro e w' ⟨rfl, rfl⟩
    go_wp2_with fail
    go_ret
    exact ⟨ret_b HE.out, hb1⟩
/-- Two cells of a block of the call's own, behind two more blocks. -/
theorem dep_box (w : World) (T : TypeId) (A C : Obj) (a b : Value) : (((w.alloc A).alloc (.cells #[a, b] T)).alloc C).cell? ⟨w.heap.size + 1, 0, none⟩ = some a ∧ (((w.alloc A).alloc (.cells #[a, b] T)).alloc C).cell? ⟨w.heap.size + 1, 1, none⟩ = some b := by
  obtain ⟨h0, h1⟩ := zero2 (w.alloc A) T a b
  have hs : (w.alloc A).heap.size = w.heap.size + 1 := by simp
  rw [hs] at h0 h1
  have hb := (Below.refl ((w.alloc A).alloc (.cells #[a, b] T)).heap.size ((w.alloc A).alloc (.cells #[a, b] T))).alloc (Nat.le_refl _) C
  exact ⟨(hb.cell (p := ⟨w.heap.size + 1, 0, none⟩) (by simp)).trans h0, (hb.cell (p := ⟨w.heap.size + 1, 1, none⟩) (by simp)).trans h1⟩
end Go.Proofs.YtnbjcelfdppkcadGreat
namespace Go.Proofs.YtnbjcelfdppkcadGreat
open Go.RowKit

/-- The slice value v can be read: it holds these dependencies. -/
def ReadD (w : World) (v : Value) (ds : List (Int × Int)) : Prop :=
  ∃ (a : Option Addr) (cap : Nat), v = .slice a ds.length cap ∧ ∀ i, i < ds.length → ∃ b o, a = some ⟨b, o, none⟩ ∧ w.cell? ⟨b, o + i * 2, none⟩ = some (.int .i64 (ds.getD i (0, 0)).1) ∧ w.cell? ⟨b, o + i * 2 + 1, none⟩ = some (.int .i64 (ds.getD i (0, 0)).2)
set_option maxHeartbeats 800000 in
theorem sameDeps_any (v v' : Value) (d e : List (Int × Int)) (w : World) (hr : ReadD w v d) (hr' : ReadD w v' e) (hl : d.length ≤ 1048576) :
    Calls Tryz.prog 17 #[v, v'] w fun e' w' => e' = .returned (.bool (decide (d = e))) ∧ Below w.heap.size w w' := by
  obtain ⟨p, cap, rfl, ha⟩ := hr
  obtain ⟨p', cap', rfl, ha'⟩ := hr'
  have HA := Lib.hid ha
  have HA' := Lib.hid ha'
  clear ha ha'
  by_cases hlen : d.length = e.length
  · have HLE := Lib.hid hlen
    clear hlen
    have hne : ((d.length : Int) != (e.length : Int)) = false := by rw [HLE.out]; simp
    go_enter Tryz.func17, Tryz.ntmps17
    go_wp2_with fail
    go_loopw [5] (fun iv wr => ∃ i : Nat, i ≤ d.length ∧ iv = .int .i64 (i : Int) ∧ Hid (d.take i = e.take i) ∧ Below w.heap.size w wr) (fun iv _ => d.length - (intOf iv).toNat)
    case atStart => exact ⟨0, by omega, rfl, Lib.hid (by simp), Below.refl _ _⟩
    case round =>
      obtain ⟨i, hi, rfl, HT, hb⟩ := hrel
      by_cases hlt : i < d.length
      · obtain ⟨b, o, rfl, h0, h1⟩ := HA.out i hlt
        have hle2 : i < e.length := by rw [← HLE.out]; exact hlt
        obtain ⟨b', o', rfl, h0', h1'⟩ := HA'.out i hle2
        replace h0 := (hb.cell (World.block_lt_of_cell? w _ h0)).trans h0
        replace h1 := (hb.cell (World.block_lt_of_cell? w _ h1)).trans h1
        replace h0' := (hb.cell (World.block_lt_of_cell? w _ h0')).trans h0'
        replace h1' := (hb.cell (World.block_lt_of_cell? w _ h1')).trans h1'
        have z0 : (0 : Int) ≤ (i : Int) := by omega
        have z1 : (i : Int) < (d.length : Int) := by omega
        have z2 : (i : Int) < (e.length : Int) := Int.ofNat_lt.2 hle2
        have HX := Lib.hid (take_succ_getD d (0, 0) i hlt)
        have HY := Lib.hid (take_succ_getD e (0, 0) i hle2)
        obtain ⟨⟨x0, x1⟩, hx⟩ : ∃ z, z = d.getD i (0, 0) := ⟨_, rfl⟩
        obtain ⟨⟨y0, y1⟩, hy⟩ : ∃ z, z = e.getD i (0, 0) := ⟨_, rfl⟩
        rw [← hx] at h0 h1 HX
        rw [← hy] at h0' h1' HY
        simp only at h0 h1 h0' h1'
        by_cases he : x0 = y0 ∧ x1 = y1
        · obtain ⟨rfl, rfl⟩ := he
          have HN : Hid (d.take (i + 1) = e.take (i + 1)) := Lib.hid (by rw [HX.out, HY.out, HT.out])
          go_wp2_with fail
          go_region
          go_wp2_with fail
          go_roundw
          case rel => exact ⟨i + 1, by omega, by go_num, HN, hb.drew⟩
          case measure => simp [intOf]; omega
        · have HN : Hid (decide (d = e) = false) := Lib.hid (decide_eq_false fun h => he (by
            subst h
            rw [← hx] at hy
            cases hy; exact ⟨rfl, rfl⟩))
          by_cases he0 : x0 = y0
          · have he1 : ¬ x1 = y1 := fun h => he ⟨he0, h⟩
            clear he hx hy
            go_wp2_with fail
            go_region
            go_wp2_with fail
            go_ret
            exact ⟨ret_b HN.out, hb.drew⟩
          · clear he hx hy
            go_wp2_with fail
            go_region
            go_wp2_with fail
            go_ret
            exact ⟨ret_b HN.out, hb.drew⟩
      · obtain rfl : i = d.length := by omega
        have HN : Hid (decide (d = e) = true) := Lib.hid (decide_eq_true (by
          have h := HT.out
          rw [List.take_length, HLE.out, List.take_length] at h
          exact h))
        go_wp2_with fail
        go_ret
        exact ⟨ret_b HN.out, hb⟩
  · have HN : Hid (decide (d = e) = false) := Lib.hid (decide_eq_false fun h => hlen (by rw [h]))
    have hne : ((d.length : Int) != (e.length : Int)) = true := by rw [bne_iff_ne]; omega
    clear hlen
    go_enter Tryz.func17, Tryz.ntmps17
    go_wp2_with fail
    go_ret
    exact ⟨ret_b HN.out, Below.refl _ _⟩
end Go.Proofs.YtnbjcelfdppkcadGreat
