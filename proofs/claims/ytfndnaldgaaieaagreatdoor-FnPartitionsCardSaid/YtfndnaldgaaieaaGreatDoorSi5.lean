/- Texts of this claim, merged: SpecT, SpecT2. Conditions: as stated. -/
import Derived.Test.YtfndnaldgaaieaaGreatDoorSi4
import Derived.Test.YtfndnaldgaaieaaGreatDoorSi2
namespace Go.Proofs.YtfndnaldgaaieaaGreatDoor
open Go.RowKit

theorem get_getD (l : List Int) (i : Nat) (h : i < l.length) : l[i] = l.getD i 0 := by rw [List.getD_eq_getElem?_getD, List.getElem?_eq_getElem h]; rfl
def cellOk (x : Int) : Bool := decide (-1 ≤ x ∧ x ≤ 40)
def rowOk (c : Int) (r : List Int) : Bool := r.all cellOk && decide ((r.length : Int) = c)
/-- The table is valid. -/
def isT (c : Int) (ll : List (List Int)) : Bool := ll.all (rowOk c) && (decide (1 ≤ c ∧ c ≤ 5) && decide (ll.length ≤ 40))
theorem isT_row {c : Int} {ll : List (List Int)} (h : isT c ll = true) {k : Nat} (hk : k < ll.length) : ((ll.getD k []).length : Int) = c ∧ ∀ x ∈ ll.getD k [], -1 ≤ x ∧ x ≤ 40 := by
  unfold isT at h
  rw [Bool.and_eq_true, List.all_eq_true] at h
  have h1 := h.1 (ll.getD k []) (by rw [List.getD_eq_getElem?_getD, List.getElem?_eq_getElem hk]; exact List.getElem_mem _)
  unfold rowOk at h1
  rw [Bool.and_eq_true, List.all_eq_true, decide_eq_true_iff] at h1
  exact ⟨h1.2, fun x hx => by have := h1.1 x hx; unfold cellOk at this; simpa using this⟩
theorem isT_bd {c : Int} {ll : List (List Int)} (h : isT c ll = true) : 1 ≤ c ∧ c ≤ 5 ∧ ll.length ≤ 40 := by
  unfold isT at h
  simp at h
  exact ⟨h.2.1.1, h.2.1.2, h.2.2⟩
theorem all_snoc {α : Type} {l : List α} {p : α → Bool} {k : Nat} (h : k < l.length) (h1 : (l.take k).all p = true) (h2 : p l[k] = true) : (l.take (k + 1)).all p = true := by
  rw [List.take_succ_eq_append_getElem h, List.all_append, h1]; simp [h2]
theorem all_not {α : Type} {l : List α} {p : α → Bool} {k : Nat} (h : k < l.length) (h2 : p l[k] = false) : l.all p = false := by
  rw [List.all_eq_false]; exact ⟨l[k], List.getElem_mem _, by rw [h2]; simp⟩
set_option maxHeartbeats 800000 in
theorem l3Row_any (v : Value) (r : List Int) (c : Int) (w : World) (hr : ReadI w v r) (hl : r.length ≤ 1048576) :
    Calls Tryz.prog 42 #[v, .int .i64 c] w fun e w' => e = .returned (.bool (rowOk c r)) ∧ w = w' := by
  obtain ⟨a, cap, rfl, ha⟩ := hr
  have HA := Lib.hid ha
  clear ha
  go_enter Tryz.func42, Tryz.ntmps42
  go_wp2_with fail
  go_loop [5] (fun iv => ∃ k : Nat, k ≤ r.length ∧ iv = .int .i64 (k : Int) ∧ Hid ((r.take k).all cellOk = true)) (fun iv => r.length - (intOf iv).toNat)
  case atStart => exact ⟨0, by omega, rfl, Lib.hid rfl⟩
  case round =>
    obtain ⟨k, hk, rfl, hall⟩ := hrel
    by_cases hlt : k < r.length
    · obtain ⟨x, rfl, hx⟩ := HA.out k hlt
      have z0 : (0 : Int) ≤ (k : Int) := by omega
      have z1 : (k : Int) < (r.length : Int) := by omega
      have HI := Lib.hid (in_any r[k] (-1) 40 w)
      have HOK := Lib.hid (fun h => all_snoc (p := cellOk) hlt hall.out h)
      have HNO := Lib.hid (fun h => all_not (p := cellOk) hlt h)
      obtain ⟨y, hy⟩ : ∃ y : Int, r[k] = y := ⟨_, rfl⟩
      rw [hy] at hx HI HOK HNO
      clear hy
      by_cases hc : -1 ≤ y ∧ y ≤ 40
      · have hd : decide (-1 ≤ y ∧ y ≤ 40) = true := by simp [hc]
        rw [hd] at HI
        have HX := Lib.hid (HOK.out hd)
        clear hc hd
        go_wp2_with fail
        refine HI.out.mono ?_
        rintro e w' ⟨rfl, rfl⟩
        go_wp2_with fail
        go_round
        case rel => exact ⟨k + 1, by omega, by go_num, HX⟩
        case measure => simp [intOf]; omega
      · have hd : decide (-1 ≤ y ∧ y ≤ 40) = false := by simp only [hc, decide_false]
        rw [hd] at HI
        have HX := Lib.hid (HNO.out hd)
        clear hc hd
        go_wp2_with fail
        refine HI.out.mono ?_
        rintro e w' ⟨rfl, rfl⟩
        go_wp2_with fail
        go_ret
        exact ⟨ret_b (by unfold rowOk; rw [HX.out]; rfl), rfl⟩
    · obtain rfl : k = r.length := by omega
      have HX : Hid (r.all cellOk = true) := Lib.hid (by have := hall.out; rwa [List.take_length] at this)
      by_cases hc : (r.length : Int) = c
      · have hd : ((r.length : Int) == c) = true := by simp [hc]
        have HC := Lib.hid hc
        clear hc
        go_wp2_with fail
        go_ret
        exact ⟨ret_b (by unfold rowOk; rw [HX.out, decide_eq_true HC.out]; rfl), rfl⟩
      · have hd : ((r.length : Int) == c) = false := by simpa using hc
        have HC := Lib.hid hc
        clear hc
        go_wp2_with fail
        go_ret
        exact ⟨ret_b (by unfold rowOk; rw [HX.out, decide_eq_false HC.out]; rfl), rfl⟩
/-- The two cells of a boxed table, later. -/
theorem box2 {w wr : World} {c : Int} {v : Value} {T : TypeId} (hb : Below (w.alloc (.cells #[.int .i64 c, v] T)).heap.size (w.alloc (.cells #[.int .i64 c, v] T)) wr) :
    wr.cell? ⟨w.heap.size, 0, none⟩ = some (.int .i64 c) ∧ wr.cell? ⟨w.heap.size, 1, none⟩ = some v :=
  ⟨(hb.cell (p := ⟨w.heap.size, 0, none⟩) (by simp)).trans (World.cell?_alloc_mark w #[.int .i64 c, v] T (0, 0) 0), (hb.cell (p := ⟨w.heap.size, 1, none⟩) (by simp)).trans (World.cell?_alloc_mark w #[.int .i64 c, v] T (0, 0) 1)⟩
theorem zero2 (w : World) (T : TypeId) (a b : Value) : (w.alloc (.cells #[a, b] T)).cell? ⟨w.heap.size, 0, none⟩ = some a ∧ (w.alloc (.cells #[a, b] T)).cell? ⟨w.heap.size, 1, none⟩ = some b :=
  ⟨World.cell?_alloc_mark w #[a, b] T (0, 0) 0, World.cell?_alloc_mark w #[a, b] T (0, 0) 1⟩
theorem one_slice (a : Option Addr) (l c : Nat) : ∀ u ∈ [Value.slice a l c], u.oneCell' = true := by intro u hu; simp at hu; subst hu; rfl
set_option maxHeartbeats 800000 in
theorem isTable_any (c : Int) (v : Value) (ll : List (List Int)) (w : World) (hr : ReadSS w v ll) (hl : ll.length ≤ 1048576) (ht : ∀ i, i < ll.length → (ll.getD i []).length ≤ 1048576) :
    Calls Tryz.prog 11 #[.agg #[.int .i64 c, v]] w fun e w' => e = .returned (.bool (isT c ll)) ∧ Below w.heap.size w w' := by
  have HR := Lib.hid (fun w' (hb : Below w.heap.size w w') => hr.kept hb)
  obtain ⟨a, cap, rfl, ha⟩ := hr
  have HA := Lib.hid ha
  have HT := Lib.hid ht
  clear ha ht
  have hb1 := (Below.refl w.heap.size w).alloc (Nat.le_refl _) (.cells #[.int .i64 c, .slice a ll.length cap] 26)
  have HI := Lib.hid (fun w' => in_any c 1 5 w')
  go_enter Tryz.func11, Tryz.ntmps11
  go_wp2_with fail
  go_loopw [3] (fun iv wr => ∃ k : Nat, k ≤ ll.length ∧ iv = .int .i64 (k : Int) ∧ Hid ((ll.take k).all (rowOk c) = true) ∧ Below (w.alloc (.cells #[.int .i64 c, .slice a ll.length cap] 26)).heap.size (w.alloc (.cells #[.int .i64 c, .slice a ll.length cap] 26)) wr) (fun iv _ => ll.length - (intOf iv).toNat)
  case atStart => exact ⟨0, by omega, rfl, Lib.hid rfl, Below.refl _ _⟩
  case round =>
    obtain ⟨k, hk, rfl, hall, hb⟩ := hrel
    obtain ⟨hc0, hc1⟩ := box2 hb
    have hb2 := hb1.trans (hb.mono hb1.size)
    have HB := Lib.hid hb
    clear hb
    by_cases hlt : k < ll.length
    · obtain ⟨x, u, rfl, hx, hu⟩ := HA.out k hlt
      have hy := (hb2.cell (World.block_lt_of_cell? w _ hx)).trans hx
      have z0 : (0 : Int) ≤ (k : Int) := by omega
      have z1 : (k : Int) < (ll.length : Int) := by omega
      have hg : ll[k] = ll.getD k [] := by rw [List.getD_eq_getElem?_getD, List.getElem?_eq_getElem hlt]; rfl
      have HQ := Lib.hid (fun n => (l3Row_any u (ll.getD k []) c (wr.drewN n) ((hu.kept hb2).kept (below_drewN (Below.refl _ _) n)) (HT.out k hlt)).mono fun e w' (h : e = _ ∧ _ = w') => And.intro h.1 h.2.symm)
      have HOK := Lib.hid (fun h => all_snoc (p := rowOk c) hlt hall.out h)
      have HNO := Lib.hid (fun h => all_not (p := rowOk c) hlt h)
      rw [hg] at HOK HNO
      obtain ⟨r, hrr⟩ : ∃ r, ll.getD k [] = r := ⟨_, rfl⟩
      rw [hrr] at HQ HOK HNO
      clear hx hu hg hrr
      cases hro : rowOk c r with
      | true =>
        rw [hro] at HQ
        have HX := Lib.hid (HOK.out hro)
        clear hro
        go_wp2_with fail
        go_quiet ((go_at_call 42; exact Calls.quiet_of_same (HQ.out _)))
        go_wp2_with fail
        go_roundw
        case rel => exact ⟨k + 1, by omega, by go_num, HX, below_drewN HB.out _⟩
        case measure => simp [intOf]; omega
      | false =>
        rw [hro] at HQ
        have HX := Lib.hid (HNO.out hro)
        clear hro
        go_wp2_with fail
        go_quiet ((go_at_call 42; exact Calls.quiet_of_same (HQ.out _)))
        go_wp2_with fail
        go_ret
        exact ⟨ret_b (by unfold isT; rw [HX.out]; rfl), below_drewN hb2 _⟩
    · obtain rfl : k = ll.length := by omega
      have HX : Hid (ll.all (rowOk c) = true) := Lib.hid (by have := hall.out; rwa [List.take_length] at this)
      by_cases hc : 1 ≤ c ∧ c ≤ 5
      · have hd : decide (1 ≤ c ∧ c ≤ 5) = true := by simp [hc]
        rw [hd] at HI
        have HC := Lib.hid hd
        clear hc hd
        go_wp2_with fail
        refine (HI.out _).mono ?_
        rintro e w' ⟨rfl, rfl⟩
        go_wp2_with fail
        go_ret
        exact ⟨ret_b (by unfold isT; rw [HX.out, HC.out, Bool.true_and, Bool.true_and, decide_eq_decide]; omega), hb2⟩
      · have hd : decide (1 ≤ c ∧ c ≤ 5) = false := by simp only [hc, decide_false]
        rw [hd] at HI
        have HC := Lib.hid hd
        clear hc hd
        go_wp2_with fail
        refine (HI.out _).mono ?_
        rintro e w' ⟨rfl, rfl⟩
        go_wp2_with fail
        go_ret
        exact ⟨ret_b (by unfold isT; rw [HC.out]; simp), hb2⟩

/-- The values of a column. -/
def colOf (c : Int) (ll : List (List Int)) (q : Int) : List Int := if isT c ll = true ∧ 0 ≤ q ∧ q ≤ c - 1 then ll.map (fun r => r.getD q.toNat 0) else []
theorem colOf_len (c : Int) (ll : List (List Int)) (q : Int) : (colOf c ll q).length ≤ ll.length := by
  unfold colOf; split <;> simp
theorem map_take_succ {α β : Type} (l : List α) (f : α → β) (d : α) (k : Nat) (h : k < l.length) : (l.take (k + 1)).map f = (l.take k).map f ++ [f (l.getD k d)] := by
  rw [take_succ_getD l d k h, List.map_append]; rfl
end Go.Proofs.YtfndnaldgaaieaaGreatDoor
namespace Go.Proofs.YtfndnaldgaaieaaGreatDoor
open Go.RowKit

/-- The cells of two boxed tables, later. -/
theorem box4 {w wr : World} {c c' : Int} {v v' : Value} {T : TypeId} (hb : Below ((w.alloc (.cells #[.int .i64 c, v] T)).alloc (.cells #[.int .i64 c', v'] T)).heap.size ((w.alloc (.cells #[.int .i64 c, v] T)).alloc (.cells #[.int .i64 c', v'] T)) wr) :
    (wr.cell? ⟨w.heap.size, 0, none⟩ = some (.int .i64 c) ∧ wr.cell? ⟨w.heap.size, 1, none⟩ = some v) ∧ wr.cell? ⟨w.heap.size + 1, 0, none⟩ = some (.int .i64 c') ∧ wr.cell? ⟨w.heap.size + 1, 1, none⟩ = some v' := by
  have h1 := box2 (w := w) ((Below.refl _ _).alloc (Nat.le_refl _) (.cells #[.int .i64 c', v'] T) |>.trans (hb.mono (by simp)))
  have h2 := box2 (w := w.alloc (.cells #[.int .i64 c, v] T)) hb
  exact ⟨h1, by simpa using h2⟩
/-- What is held of a region in which tables are loaded and copied: the cells of two boxes, and the second table's rows. -/
theorem keepT {w5 w6 w7 : World} {p q r t : Addr} {u0 u1 u2 u3 : Value} {vx : Value} {ll : List (List Int)} (h : (w6.cell? p = some u0 ∧ w6.cell? q = some u1) ∧ (w6.cell? r = some u2 ∧ w6.cell? t = some u3) ∧ ReadSS w6 vx ll ∧ Below w5.heap.size w5 w6) (hb : Below w6.heap.size w6 w7) :
    (w7.cell? p = some u0 ∧ w7.cell? q = some u1) ∧ (w7.cell? r = some u2 ∧ w7.cell? t = some u3) ∧ ReadSS w7 vx ll ∧ Below w5.heap.size w5 w7 := by
  have k : ∀ {a : Addr} {u : Value}, w6.cell? a = some u → w7.cell? a = some u := fun e => (hb.cell (World.block_lt_of_cell? w6 _ e)).trans e
  exact ⟨⟨k h.1.1, k h.1.2⟩, ⟨k h.2.1.1, k h.2.1.2⟩, h.2.2.1.kept hb, h.2.2.2.trans (hb.mono h.2.2.2.size)⟩
theorem keepQ {w5 w6 w7 : World} {p q r t : Addr} {u0 u1 u2 u3 : Value} (h : ((w6.cell? p = some u0 ∧ w6.cell? q = some u1) ∧ w6.cell? r = some u2 ∧ w6.cell? t = some u3) ∧ Below w5.heap.size w5 w6) (hb : Below w6.heap.size w6 w7) :
    ((w7.cell? p = some u0 ∧ w7.cell? q = some u1) ∧ w7.cell? r = some u2 ∧ w7.cell? t = some u3) ∧ Below w5.heap.size w5 w7 := by
  have k : ∀ {a : Addr} {u : Value}, w6.cell? a = some u → w7.cell? a = some u := fun e => (hb.cell (World.block_lt_of_cell? w6 _ e)).trans e
  exact ⟨⟨⟨k h.1.1.1, k h.1.1.2⟩, k h.1.2.1, k h.1.2.2⟩, h.2.trans (hb.mono h.2.size)⟩
end Go.Proofs.YtfndnaldgaaieaaGreatDoor
