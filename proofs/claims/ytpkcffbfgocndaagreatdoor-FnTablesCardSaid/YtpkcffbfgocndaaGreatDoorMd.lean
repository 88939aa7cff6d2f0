/- Texts of this claim, merged: SpecT, SpecT2, RowOrd. Conditions: as stated. -/
import Derived.Test.YtpkcffbfgocndaaGreatDoorMb
import Derived.Test.YtpkcffbfgocndaaGreatDoorMc
import Derived.Test.YtpkcffbfgocndaaGreatDoorMa
namespace Go.Proofs.YtpkcffbfgocndaaGreatDoor
open Go.RowKit

theorem get_getD (l : List Int) (i : Nat) (h : i < l.length) : l[i] = l.getD i 0 := by rw [List.getD_eq_getElem?_getD, List.getElem?_eq_getElem h]; rfl
def cellOk (x : Int) : Bool := decide (-1 ≤ x ∧ x ≤ 40)
def rowOk (c : Int) (r : List Int) : Bool := r.all cellOk && decide ((r.length : Int) = c)
/-- The table is valid. -/
def isT (c : Int) (ll : List (List Int)) : Bool := ll.all (rowOk c) && (decide (1 ≤ c ∧ c ≤ 5) && decide (ll.length ≤ 40))
theorem isT_row {c : Int} {ll : List (List Int)} (h : isT c ll = true) {k : Nat} (hk : k < ll.length) : ((ll.getD k []).length : Int) = c ∧ ∀ x ∈ ll.getD k [], -1 ≤ x ∧ x ≤ 40 := by
  unfold isT at h
  rw [Bool.and_eq_true, List.all_eq_true] at h
  have h1 := h.1 (ll.getD k []) (by rw [List.getD_eq_getElem?_getD, List.getElem?_eq_getElem hk]; exact List.getElem_mem _)
  unfold rowOk at h1
  rw [Bool.and_eq_true, List.all_eq_true, decide_eq_true_iff] at h1
  exact ⟨h1.2, fun x hx => by have := h1.1 x hx; unfold cellOk at this; simpa using this⟩
theorem isT_bd {c : Int} {ll : List (List Int)} (h : isT c ll = true) : 1 ≤ c ∧ c ≤ 5 ∧ ll.length ≤ 40 := by
  unfold isT at h
  simp at h
  exact ⟨h.2.1.1, h.2.1.2, h.2.2⟩
theorem all_snoc {α : Type} {l : List α} {p : α → Bool} {k : Nat} (h : k < l.length) (h1 : (l.take k).all p = true) (h2 : p l[k] = true) : (l.take (k + 1)).all p = true := by
  rw [List.take_succ_eq_append_getElem h, List.all_append, h1]; simp [h2]
theorem all_not {α : Type} {l : List α} {p : α → Bool} {k : Nat} (h : k < l.length) (h2 : p l[k] = false) : l.all p = false := by
  rw [List.all_eq_false]; exact ⟨l[k], List.getElem_mem _, by rw [h2]; simp⟩
set_option maxHeartbeats 800000 in
theorem l3Row_any (v : Value) (r : List Int) (c : Int) (w : World) (hr : ReadI w v r) (hl : r.length ≤ 1048576) :
    Calls Tryz.prog 33 #[v, .int .i64 c] w fun e w' => e = .returned (.bool (rowOk c r)) ∧ w = w' := by
  obtain ⟨a, cap, rfl, ha⟩ := hr
  have HA := Lib.hid ha
  clear ha
  go_enter Tryz.func33, Tryz.ntmps33
  go_wp2_with fail
  go_loop [5] (fun iv => ∃ k : Nat, k ≤ r.length ∧ iv = .int .i64 (k : Int) ∧ Hid ((r.take k).all cellOk = true)) (fun iv => r.length - (intOf iv).toNat)
  case atStart => exact ⟨0, by omega, rfl, Lib.hid rfl⟩
  case round =>
    obtain ⟨k, hk, rfl, hall⟩ := hrel
    by_cases hlt : k < r.length
    · obtain ⟨x, rfl, hx⟩ := HA.out k hlt
      have z0 : (0 : Int) ≤ (k : Int) := by omega
      have z1 : (k : Int) < (r.length : Int) := by omega
      have HI := Lib.hid (in_any r[k] (-1) 40 w)
      have HOK := Lib.hid (fun h => all_snoc (p := cellOk) hlt hall.out h)
      have HNO := Lib.hid (fun h => all_not (p := cellOk) hlt h)
      obtain ⟨y, hy⟩ : ∃ y : Int, r[k] = y := ⟨_, rfl⟩
      rw [hy] at hx HI HOK HNO
      clear hy
      by_cases hc : -1 ≤ y ∧ y ≤ 40
      · have hd : decide (-1 ≤ y ∧ y ≤ 40) = true := by simp [hc]
        rw [hd] at HI
        have HX := Lib.hid (HOK.out hd)
        clear hc hd
        go_wp2_with fail
        refine HI.out.mono ?_
        rintro e w' ⟨rfl, rfl⟩
        go_wp2_with fail
        go_round
        case rel => exact ⟨k + 1, by omega, by go_num, HX⟩
        case measure => simp [intOf]; omega
      · have hd : decide (-1 ≤ y ∧ y ≤ 40) = false := by simp only [hc, decide_false]
        rw [hd] at HI
        have HX := Lib.hid (HNO.out hd)
        clear hc hd
        go_wp2_with fail
        refine HI.out.mono ?_
        rintro e w' ⟨rfl, rfl⟩
        go_wp2_with fail
        go_ret
        exact ⟨ret_b (by unfold rowOk; rw [HX.out]; rfl), rfl⟩
    · obtain rfl : k = r.length := by omega
      have HX : Hid (r.all cellOk = true) := Lib.hid (by have := hall.out; rwa [List.take_length] at this)
      by_cases hc : (r.length : Int) = c
      · have hd : ((r.length : Int) == c) = true := by simp [hc]
        have HC := Lib.hid hc
        clear hc
        go_wp2_with fail
        go_ret
        exact ⟨ret_b (by unfold rowOk; rw [HX.out, decide_eq_true HC.out]; rfl), rfl⟩
      · have hd : ((r.length : Int) == c) = false := by simpa using hc
        have HC := Lib.hid hc
        clear hc
        go_wp2_with fail
        go_ret
        exact ⟨ret_b (by unfold rowOk; rw [HX.out, decide_eq_false HC.out]; rfl), rfl⟩
/-- The two cells of a boxed table, later. -/
theorem box2 {w wr : World} {c : Int} {v : Value} {T : TypeId} (hb : Below (w.alloc (.cells #[.int .i64 c, v] T)).heap.size (w.alloc (.cells #[.int .i64 c, v] T)) wr) :
    wr.cell? ⟨w.heap.size, 0, none⟩ = some (.int .i64 c) ∧ wr.cell? ⟨w.heap.size, 1, none⟩ = some v :=
  ⟨(hb.cell (p := ⟨w.heap.size, 0, none⟩) (by simp)).trans (World.cell?_alloc_mark w #[.int .i64 c, v] T (0, 0) 0), (hb.cell (p := ⟨w.heap.size, 1, none⟩) (by simp)).trans (World.cell?_alloc_mark w #[.int .i64 c, v] T (0, 0) 1)⟩
theorem zero2 (w : World) (T : TypeId) (a b : Value) : (w.alloc (.cells #[a, b] T)).cell? ⟨w.heap.size, 0, none⟩ = some a ∧ (w.alloc (.cells #[a, b] T)).cell? ⟨w.heap.size, 1, none⟩ = some b :=
  ⟨World.cell?_alloc_mark w #[a, b] T (0, 0) 0, World.cell?_alloc_mark w #[a, b] T (0, 0) 1⟩
theorem one_slice (a : Option Addr) (l c : Nat) : ∀ u ∈ [Value.slice a l c], u.oneCell' = true := by intro u hu; simp at hu; subst hu; rfl
set_option maxHeartbeats 800000 in
theorem isTable_any (c : Int) (v : Value) (ll : List (List Int)) (w : World) (hr : ReadSS w v ll) (hl : ll.length ≤ 1048576) (ht : ∀ i, i < ll.length → (ll.getD i []).length ≤ 1048576) :
    Calls Tryz.prog 9 #[.agg #[.int .i64 c, v]] w fun e w' => e = .returned (.bool (isT c ll)) ∧ Below w.heap.size w w' := by
  have HR := Lib.hid (fun w' (hb : Below w.heap.size w w') => hr.kept hb)
  obtain ⟨a, cap, rfl, ha⟩ := hr
  have HA := Lib.hid ha
  have HT := Lib.hid ht
  clear ha ht
  have hb1 := (Below.refl w.heap.size w).alloc (Nat.le_refl _) (.cells #[.int .i64 c, .slice a ll.length cap] 26)
  have HI := Lib.hid (fun w' => in_any c 1 5 w')
  go_enter Tryz.func9, Tryz.ntmps9
  go_wp2_with fail
  go_loopw [3] (fun iv wr => ∃ k : Nat, k ≤ ll.length ∧ iv = .int .i64 (k : Int) ∧ Hid ((ll.take k).all (rowOk c) = true) ∧ Below (w.alloc (.cells #[.int .i64 c, .slice a ll.length cap] 26)).heap.size (w.alloc (.cells #[.int .i64 c, .slice a ll.length cap] 26)) wr) (fun iv _ => ll.length - (intOf iv).toNat)
  case atStart => exact ⟨0, by omega, rfl, Lib.hid rfl, Below.refl _ _⟩
  case round =>
    obtain ⟨k, hk, rfl, hall, hb⟩ := hrel
    obtain ⟨hc0, hc1⟩ := box2 hb
    have hb2 := hb1.trans (hb.mono hb1.size)
    have HB := Lib.hid hb
    clear hb
    by_cases hlt : k < ll.length
    · obtain ⟨x, u, rfl, hx, hu⟩ := HA.out k hlt
      have hy := (hb2.cell (World.block_lt_of_cell? w _ hx)).trans hx
      have z0 : (0 : Int) ≤ (k : Int) := by omega
      have z1 : (k : Int) < (ll.length : Int) := by omega
      have hg : ll[k] = ll.getD k [] := by rw [List.getD_eq_getElem?_getD, List.getElem?_eq_getElem hlt]; rfl
      have HQ := Lib.hid (fun n => (l3Row_any u (ll.getD k []) c (wr.drewN n) ((hu.kept hb2).kept (below_drewN (Below.refl _ _) n)) (HT.out k hlt)).mono fun e w' (h : e = _ ∧ _ = w') => And.intro h.1 h.2.symm)
      have HOK := Lib.hid (fun h => all_snoc (p := rowOk c) hlt hall.out h)
      have HNO := Lib.hid (fun h => all_not (p := rowOk c) hlt h)
      rw [hg] at HOK HNO
      obtain ⟨r, hrr⟩ : ∃ r, ll.getD k [] = r := ⟨_, rfl⟩
      rw [hrr] at HQ HOK HNO
      clear hx hu hg hrr
      cases hro : rowOk c r with
      | true =>
        rw [hro] at HQ
        have HX := Lib.hid (HOK.out hro)
        clear hro
        go_wp2_with fail
        go_quiet ((go_at_call 33; exact Calls.quiet_of_same (HQ.out _)))
        go_wp2_with fail
        go_roundw
        case rel => exact ⟨k + 1, by omega, by go_num, HX, below_drewN HB.out _⟩
        case measure => simp [intOf]; omega
      | false =>
        rw [hro] at HQ
        have HX := Lib.hid (HNO.out hro)
        clear hro
        go_wp2_with fail
        go_quiet ((go_at_call 33; exact Calls.quiet_of_same (HQ.out _)))
        go_wp2_with fail
        go_ret
        exact ⟨ret_b (by unfold isT; rw [HX.out]; rfl), below_drewN hb2 _⟩
    · obtain rfl : k = ll.length := by omega
      have HX : Hid (ll.all (rowOk c) = true) := Lib.hid (by have := hall.out; rwa [List.take_length] at this)
      by_cases hc : 1 ≤ c ∧ c ≤ 5
      · have hd : decide (1 ≤ c ∧ c ≤ 5) = true := by simp [hc]
        rw [hd] at HI
        have HC := Lib.hid hd
        clear hc hd
        go_wp2_with fail
        refine (HI.out _).mono ?_
        rintro e w' ⟨rfl, rfl⟩
        go_wp2_with fail
        go_ret
        exact ⟨ret_b (by unfold isT; rw [HX.out, HC.out, Bool.true_and, Bool.true_and, decide_eq_decide]; omega), hb2⟩
      · have hd : decide (1 ≤ c ∧ c ≤ 5) = false := by simp only [hc, decide_false]
        rw [hd] at HI
        have HC := Lib.hid hd
        clear hc hd
        go_wp2_with fail
        refine (HI.out _).mono ?_
        rintro e w' ⟨rfl, rfl⟩
        go_wp2_with fail
        go_ret
        exact ⟨ret_b (by unfold isT; rw [HC.out]; simp), hb2⟩

/-- The values of a column. -/
def colOf (c : Int) (ll : List (List Int)) (q : Int) : List Int := if isT c ll = true ∧ 0 ≤ q ∧ q ≤ c - 1 then ll.map (fun r => r.getD q.toNat 0) else []
theorem colOf_len (c : Int) (ll : List (List Int)) (q : Int) : (colOf c ll q).length ≤ ll.length := by
  unfold colOf; split <;> simp
theorem map_take_succ {α β : Type} (l : List α) (f : α → β) (d : α) (k : Nat) (h : k < l.length) : (l.take (k + 1)).map f = (l.take k).map f ++ [f (l.getD k d)] := by
  rw [take_succ_getD l d k h, List.map_append]; rfl
set_option maxHeartbeats 1600000 in
theorem columnOf_any (c q : Int) (v : Value) (ll : List (List Int)) (w : World) (hr : ReadSS w v ll) (hl : ll.length ≤ 1048576) (ht : ∀ i, i < ll.length → (ll.getD i []).length ≤ 1048576) :
    Calls Tryz.prog 19 #[.agg #[.int .i64 c, v], .int .i64 q] w (RetI (colOf c ll q) w) := by
  obtain ⟨i0, hi, hz0, hz1, hz2⟩ := info_parts info3j
  have HI : Hid (_ ∧ _ ∧ _ ∧ _) := Lib.hid ⟨hi, hz0, hz1, hz2⟩
  clear hi hz0 hz1 hz2
  have HV := Lib.hid (fun w' (hb : Below w.heap.size w w') => isTable_any c v ll w' (hr.kept hb) hl ht)
  obtain ⟨a, cap, rfl, ha⟩ := hr
  have HA := Lib.hid ha
  clear ha ht
  have hb1 := (Below.refl w.heap.size w).alloc (Nat.le_refl _) (.cells #[.int .i64 c, .slice a ll.length cap] 26)
  cases hv : isT c ll with
  | true =>
    obtain ⟨c1, c5, h40⟩ := isT_bd hv
    have HROW := Lib.hid (fun k hk => (isT_row hv (k := k) hk).1)
    rw [hv] at HV
    by_cases hq : 0 ≤ q ∧ q ≤ c - 1
    · have HE : Hid (colOf c ll q = ll.map (fun r => r.getD q.toNat 0)) := Lib.hid (by unfold colOf; rw [if_pos ⟨hv, hq⟩])
      have HIN := Lib.hid (fun w' => in_any q 0 (c - 1) w')
      rw [show decide (0 ≤ q ∧ q ≤ c - 1) = true by simp [hq]] at HIN
      obtain ⟨Q, rfl⟩ : ∃ Q : Nat, q = (Q : Int) := ⟨q.toNat, by omega⟩
      have hQ : Q < 5 := by omega
      have hQc : (Q : Int) ≤ c - 1 := hq.2
      clear hv hq
      go_enter Tryz.func19, Tryz.ntmps19
      go_wp2_with fail
      have ho0 := OwnI.made (World.ownsRow_made (w.alloc (.cells #[.int .i64 c, .slice a ll.length cap] 26)) #[] 0 (base := w.heap.size + 1) (e := 3) (size := 1) (by simp) (by unfold maxLen; omega) rfl)
      go_loopw [5, 6] (fun ov iv wr => ∃ (k : Nat) (l : List Int), k ≤ ll.length ∧ iv = .int .i64 (k : Int) ∧ Hid (l = (ll.take k).map (fun r => r.getD Q 0)) ∧ OwnI wr (w.heap.size + 1) ov l ∧ Below (w.alloc (.cells #[.int .i64 c, .slice a ll.length cap] 26)).heap.size (w.alloc (.cells #[.int .i64 c, .slice a ll.length cap] 26)) wr) (fun _ iv _ => ll.length - (intOf iv).toNat)
      case atStart => exact ⟨0, [], by omega, rfl, Lib.hid rfl, by simpa using ho0, (Below.refl _ _).alloc (Nat.le_refl _) _⟩
      case round =>
        clear ho0
        obtain ⟨k, l, hk, rfl, hL, ho, hb⟩ := hrel
        obtain ⟨hc0, hc1⟩ := box2 hb
        have hll : l.length ≤ 40 := by rw [hL.out, List.length_map]; have := List.length_take_le k ll; omega
        by_cases hlt : k < ll.length
        · have z0 : (0 : Int) ≤ (k : Int) := by omega
          have z1 : (k : Int) < (ll.length : Int) := by omega
          have HB := Lib.hid hb
          have hbw := hb1.trans (hb.mono hb1.size)
          clear hb
          go_wp2_with fail
          refine (HV.out _ hbw).mono ?_
          rintro e w2 ⟨rfl, hb2⟩
          have hb3 := HB.out.trans (hb2.mono HB.out.size)
          have ho2 := ho.kept hb2 (fun q hq => (ho.lt q hq).2)
          obtain ⟨hd0, hd1⟩ := box2 hb3
          have hbw2 := hb1.trans (hb3.mono hb1.size)
          have HB3 := Lib.hid hb3
          obtain ⟨x, u, rfl, hx, hu⟩ := HA.out k hlt
          have hy := (hbw2.cell (World.block_lt_of_cell? w _ hx)).trans hx
          obtain ⟨a', cap', rfl, hrow⟩ := hu.kept hbw2
          have hcl := HROW.out k hlt
          obtain ⟨x', rfl, hx'⟩ := hrow Q (by omega)
          have hgd := get_getD (ll.getD k []) Q (by omega)
          rw [hgd] at hx'
          have HS := Lib.hid (map_take_succ ll (fun r => r.getD Q 0) [] k hlt)
          obtain ⟨y, hyy⟩ : ∃ y, (ll.getD k []).getD Q 0 = y := ⟨_, rfl⟩
          obtain ⟨R, hR⟩ : ∃ R : Nat, (ll.getD k []).length = R := ⟨_, rfl⟩
          rw [hyy] at hx'
          simp only [hyy] at HS
          rw [hR] at hy hcl
          have z2 : (0 : Int) ≤ (Q : Int) := by omega
          have z3 : (Q : Int) < (R : Int) := by omega
          clear hyy hR hgd hrow hx hb3 hb2 ho
          go_wp2_with fail
          refine (HIN.out _).mono ?_
          rintro e w' ⟨rfl, rfl⟩
          go_wp2_with (at_builtin; refine wpList_append_own _ rfl _ _ 37 rfl (w.heap.size + 1) 3 i0 (.int .i64 0) 1 8 Tryz.underlying37 HI.out.1 HI.out.2.1 HI.out.2.2.1 HI.out.2.2.2 rfl (by decide) _ _ _ rfl (World.ownsRow.alloc ho2 _) ⟨w2.heap.size, 0, none⟩ 1 1 [.int .i64 y] rfl rfl (cell_one_new _ _ _) (one_i64 _) (by unfold maxLen; omega) (by omega) (by have := HB3.out.size; simp at this; simp; omega) ?_; intro v' w1 hown' hgrow _)
          have ho' := OwnI.snoc hown'
          have hb' := (HB3.out.alloc HB3.out.size (.cells #[.int .i64 y] 3)).grown hgrow (by have := HB3.out.size; simp at this; simp; omega) (fun k hk => by have := (OwnI.lt ho2 k hk).1; simp; omega)
          clear hown' hgrow
          go_wp2_with fail
          go_roundw
          case rel => exact ⟨k + 1, _, by omega, by go_num, Lib.hid (by rw [HS.out, hL.out]), ho', hb'⟩
          case measure => simp [intOf]; omega
        · obtain rfl : k = ll.length := by omega
          have hbw := hb1.trans (hb.mono hb1.size)
          go_wp2_with fail
          go_ret
          exact ⟨_, rfl, by rw [HE.out, show (Q : Int).toNat = Q from rfl]; have := hL.out; rw [List.take_length] at this; rw [← this]; exact ho.base (by omega), hbw⟩
    · have HE : Hid (colOf c ll q = []) := Lib.hid (by unfold colOf; rw [if_neg (fun h => hq h.2)])
      have HIN := Lib.hid (fun w' => in_any q 0 (c - 1) w')
      rw [show decide (0 ≤ q ∧ q ≤ c - 1) = false by simp only [hq, decide_false]] at HIN
      have ho0 := OwnI.made (World.ownsRow_made (w.alloc (.cells #[.int .i64 c, .slice a ll.length cap] 26)) #[] 0 (base := w.heap.size) (e := 3) (size := 1) (by simp) (by unfold maxLen; omega) rfl)
      have hb2 := hb1.alloc (by simp) (.cells #[] 3)
      clear hv hq
      by_cases h0 : 0 < ll.length
      · go_enter Tryz.func19, Tryz.ntmps19
        go_wp2_with fail
        refine wp_loop_rounds 1 ?_
        rw [rounds_succ]
        go_wp2_with fail
        refine (HV.out _ hb2).mono ?_
        rintro e w2 ⟨rfl, hb3⟩
        obtain ⟨hc, hf⟩ := bcell hb3
        have ho9 : OwnI w2 w.heap.size (.slice (some ⟨w.heap.size + 1, 0, none⟩) 0 0) [] := OwnI.kept (by simpa using ho0) hb3 (fun k hk => by simp [Value.ownBlock] at hk; simp; omega)
        go_wp2_with fail
        refine (HIN.out _).mono ?_
        rintro e w' ⟨rfl, rfl⟩
        go_wp2_with fail
        go_ret
        exact ⟨_, rfl, by rw [HE.out]; exact ho9, hb2.trans (hb3.mono hb2.size)⟩
      · go_enter Tryz.func19, Tryz.ntmps19
        go_wp2_with fail
        refine wp_loop_rounds 1 ?_
        rw [rounds_succ]
        go_wp2_with fail
        go_ret
        exact ⟨_, rfl, by rw [HE.out]; simpa using ho0, hb2⟩
  | false =>
    have HE : Hid (colOf c ll q = []) := Lib.hid (by unfold colOf; rw [if_neg (fun h => by rw [hv] at h; cases h.1)])
    rw [hv] at HV
    have ho0 := OwnI.made (World.ownsRow_made (w.alloc (.cells #[.int .i64 c, .slice a ll.length cap] 26)) #[] 0 (base := w.heap.size) (e := 3) (size := 1) (by simp) (by unfold maxLen; omega) rfl)
    have hb2 := hb1.alloc (by simp) (.cells #[] 3)
    clear hv
    by_cases h0 : 0 < ll.length
    · go_enter Tryz.func19, Tryz.ntmps19
      go_wp2_with fail
      refine wp_loop_rounds 1 ?_
      rw [rounds_succ]
      go_wp2_with fail
      refine (HV.out _ hb2).mono ?_
      rintro e w2 ⟨rfl, hb3⟩
      obtain ⟨hc, hf⟩ := bcell hb3
      have ho9 : OwnI w2 w.heap.size (.slice (some ⟨w.heap.size + 1, 0, none⟩) 0 0) [] := OwnI.kept (by simpa using ho0) hb3 (fun k hk => by simp [Value.ownBlock] at hk; simp; omega)
      go_wp2_with fail
      go_ret
      exact ⟨_, rfl, by rw [HE.out]; exact ho9, hb2.trans (hb3.mono hb2.size)⟩
    · go_enter Tryz.func19, Tryz.ntmps19
      go_wp2_with fail
      refine wp_loop_rounds 1 ?_
      rw [rounds_succ]
      go_wp2_with fail
      go_ret
      exact ⟨_, rfl, by rw [HE.out]; simpa using ho0, hb2⟩
end Go.Proofs.YtpkcffbfgocndaaGreatDoor
namespace Go.Proofs.YtpkcffbfgocndaaGreatDoor
open Go.RowKit

set_option maxHeartbeats 800000 in
theorem l2Ints_any (v v' : Value) (l l' : List Int) (w : World) (hr : ReadI w v l) (hr' : ReadI w v' l') (hl : l.length ≤ 1000000000) :
    Calls Tryz.prog 47 #[v, v'] w fun e w' => e = .returned (.bool (eqB l l')) ∧ ∃ m, w' = w.drewN m := by
  obtain ⟨a, cap, rfl, ha⟩ := hr
  obtain ⟨a', cap', rfl, ha'⟩ := hr'
  have HA := Lib.hid ha
  have HA' := Lib.hid ha'
  clear ha ha'
  by_cases hlen : l.length = l'.length
  · have hne : ((l.length : Int) != (l'.length : Int)) = false := by simp [hlen]
    have HL := Lib.hid hlen
    clear hlen
    go_enter Tryz.func47, Tryz.ntmps47
    go_wp2_with fail
    go_loopw [5] (fun iv wr => ∃ (k n : Nat), k ≤ l.length ∧ iv = .int .i64 (k : Int) ∧ Hid (l.take k = l'.take k) ∧ wr = w.drewN n) (fun iv _ => l.length - (intOf iv).toNat)
    case atStart => exact ⟨0, 0, by omega, rfl, Lib.hid rfl, rfl⟩
    case round =>
      obtain ⟨k, n, hk, rfl, hsame, rfl⟩ := hrel
      by_cases hlt : k < l.length
      · have hlt' : k < l'.length := by have := HL.out; omega
        obtain ⟨x, rfl, hx⟩ := HA.out k hlt
        obtain ⟨x', rfl, hx'⟩ := HA'.out k hlt'
        have z0 : (0 : Int) ≤ (k : Int) := by omega
        have z1 : (k : Int) < (l.length : Int) := by omega
        have z2 : (k : Int) < (l'.length : Int) := by omega
        by_cases he : l[k] = l'[k]
        · have hb : (l[k] != l'[k]) = false := by simp [he]
          have HE := Lib.hid he
          clear he
          go_wp2_with fail
          go_quiet (fail)
          go_wp2_with fail
          go_roundw
          case rel => exact ⟨k + 1, _, by omega, by go_num, Lib.hid (by rw [List.take_succ_eq_append_getElem hlt, List.take_succ_eq_append_getElem hlt', hsame.out, HE.out]), rfl⟩
          case measure => simp [intOf]; omega
        · have hb : (l[k] != l'[k]) = true := by simpa using he
          have HE := Lib.hid he
          clear he
          go_wp2_with fail
          go_quiet (fail)
          go_wp2_with fail
          go_ret
          exact ⟨ret_b (by unfold eqB; rw [decide_eq_false]; intro e; apply HE.out; simp only [e]), _, World.drewN_drewN _ _ _⟩
      · go_wp2_with fail
        go_ret
        exact ⟨ret_b (by
          unfold eqB
          rw [decide_eq_true]
          have := hsame.out
          rwa [List.take_of_length_le (by omega), List.take_of_length_le (by have := HL.out; omega)] at this), _, rfl⟩
  · have hne : ((l.length : Int) != (l'.length : Int)) = true := by simp; omega
    have HL := Lib.hid hlen
    clear hlen
    go_enter Tryz.func47, Tryz.ntmps47
    go_wp2_with fail
    go_ret
    exact ⟨ret_b (by unfold eqB; rw [decide_eq_false]; intro e; exact HL.out (by rw [e])), 0, rfl⟩

/-- The cells of two boxed tables, later. -/
theorem box4 {w wr : World} {c c' : Int} {v v' : Value} {T : TypeId} (hb : Below ((w.alloc (.cells #[.int .i64 c, v] T)).alloc (.cells #[.int .i64 c', v'] T)).heap.size ((w.alloc (.cells #[.int .i64 c, v] T)).alloc (.cells #[.int .i64 c', v'] T)) wr) :
    (wr.cell? ⟨w.heap.size, 0, none⟩ = some (.int .i64 c) ∧ wr.cell? ⟨w.heap.size, 1, none⟩ = some v) ∧ wr.cell? ⟨w.heap.size + 1, 0, none⟩ = some (.int .i64 c') ∧ wr.cell? ⟨w.heap.size + 1, 1, none⟩ = some v' := by
  have h1 := box2 (w := w) ((Below.refl _ _).alloc (Nat.le_refl _) (.cells #[.int .i64 c', v'] T) |>.trans (hb.mono (by simp)))
  have h2 := box2 (w := w.alloc (.cells #[.int .i64 c, v] T)) hb
  exact ⟨h1, by simpa using h2⟩
set_option maxHeartbeats 1600000 in
theorem equalTables_any (c c' : Int) (v v' : Value) (ll ll' : List (List Int)) (w : World) (hr : ReadSS w v ll) (hr' : ReadSS w v' ll') (hl : ll.length ≤ 1000000000) (ht : ∀ i, i < ll.length → (ll.getD i []).length ≤ 1000000000) :
    Calls Tryz.prog 14 #[.agg #[.int .i64 c, v], .agg #[.int .i64 c', v']] w fun e w' => e = .returned (.bool (eqTb c c' ll ll')) ∧ Below w.heap.size w w' := by
  obtain ⟨a, cap, rfl, ha⟩ := hr
  obtain ⟨a', cap', rfl, ha'⟩ := hr'
  have HA := Lib.hid ha
  have HA' := Lib.hid ha'
  have HT := Lib.hid ht
  clear ha ha' ht
  have hb2 := (((Below.refl w.heap.size w).alloc (Nat.le_refl _) (.cells #[.int .i64 c, .slice a ll.length cap] 26)).alloc (by simp) (.cells #[.int .i64 c', .slice a' ll'.length cap'] 26))
  by_cases hc : c = c'
  · have hn : (c != c') = false := by simp [hc]
    have HE := Lib.hid hc
    clear hc
    by_cases hlen : ll.length = ll'.length
    · have hne : ((ll.length : Int) != (ll'.length : Int)) = false := by simp [hlen]
      have HL := Lib.hid hlen
      clear hlen
      go_enter Tryz.func14, Tryz.ntmps14
      go_wp2_with fail
      go_loopw [5] (fun iv wr => ∃ (k : Nat), k ≤ ll.length ∧ iv = .int .i64 (k : Int) ∧ Hid (ll.take k = ll'.take k) ∧ Below ((w.alloc (.cells #[.int .i64 c, .slice a ll.length cap] 26)).alloc (.cells #[.int .i64 c', .slice a' ll'.length cap'] 26)).heap.size ((w.alloc (.cells #[.int .i64 c, .slice a ll.length cap] 26)).alloc (.cells #[.int .i64 c', .slice a' ll'.length cap'] 26)) wr) (fun iv _ => ll.length - (intOf iv).toNat)
      case atStart => exact ⟨0, by omega, rfl, Lib.hid rfl, Below.refl _ _⟩
      case round =>
        obtain ⟨k, hk, rfl, hsame, hb0⟩ := hrel
        obtain ⟨⟨hc0, hc1⟩, hc2, hc3⟩ := box4 hb0
        have hb := hb2.trans (hb0.mono hb2.size)
        have HB := Lib.hid hb0
        clear hb0
        by_cases hlt : k < ll.length
        · have hlt' : k < ll'.length := by have := HL.out; omega
          obtain ⟨x, u, rfl, hx, hu⟩ := HA.out k hlt
          obtain ⟨x', u', rfl, hx', hu'⟩ := HA'.out k hlt'
          have HQ := Lib.hid (fun n => l2Ints_any u u' _ _ (wr.drewN n) ((hu.kept hb).kept (below_drewN (Below.refl _ _) n)) ((hu'.kept hb).kept (below_drewN (Below.refl _ _) n)) (HT.out k hlt))
          have hy := (hb.cell (World.block_lt_of_cell? w _ hx)).trans hx
          have hy' := (hb.cell (World.block_lt_of_cell? w _ hx')).trans hx'
          have z0 : (0 : Int) ≤ (k : Int) := by omega
          have z1 : (k : Int) < (ll.length : Int) := by omega
          have z2 : (k : Int) < (ll'.length : Int) := by omega
          clear hx hx' hu hu'
          by_cases he : ll.getD k [] = ll'.getD k []
          · have hq : eqB (ll.getD k []) (ll'.getD k []) = true := decide_eq_true he
            rw [hq] at HQ
            have HE := Lib.hid he
            clear he hq
            go_wp2_with fail
            go_quiet ((go_at_call 47; exact Calls.quiet_of (HQ.out _)))
            go_wp2_with fail
            go_roundw
            case rel => exact ⟨k + 1, by omega, by go_num, Lib.hid (by rw [take_succ_getD ll [] k hlt, take_succ_getD ll' [] k hlt', hsame.out, HE.out]), below_drewN HB.out _⟩
            case measure => simp [intOf]; omega
          · have hq : eqB (ll.getD k []) (ll'.getD k []) = false := decide_eq_false he
            rw [hq] at HQ
            have HE2 := Lib.hid he
            clear he hq
            go_wp2_with fail
            go_quiet ((go_at_call 47; exact Calls.quiet_of (HQ.out _)))
            go_wp2_with fail
            go_ret
            exact ⟨ret_b (by unfold eqTb; rw [decide_eq_false (p := ll = ll') (by intro e; apply HE2.out; rw [e])]; simp), below_drewN hb _⟩
        · go_wp2_with fail
          go_ret
          exact ⟨ret_b (by unfold eqTb; rw [decide_eq_true HE.out, decide_eq_true (p := ll = ll') (take_eq_all hsame.out (by omega) (by have := HL.out; omega))]; rfl), hb⟩
    · have hne : ((ll.length : Int) != (ll'.length : Int)) = true := by simp; omega
      have HL := Lib.hid hlen
      clear hlen
      go_enter Tryz.func14, Tryz.ntmps14
      go_wp2_with fail
      go_ret
      exact ⟨ret_b (by unfold eqTb; rw [decide_eq_false (p := ll = ll') (by intro e; exact HL.out (by rw [e]))]; simp), hb2⟩
  · have hn : (c != c') = true := by simpa using hc
    have HE := Lib.hid hc
    clear hc
    go_enter Tryz.func14, Tryz.ntmps14
    go_wp2_with fail
    go_ret
    exact ⟨ret_b (by unfold eqTb; rw [decide_eq_false HE.out]; rfl), hb2⟩
/-- What is held of a region in which tables are loaded and copied: the cells of two boxes, and the second table's rows. -/
theorem keepT {w5 w6 w7 : World} {p q r t : Addr} {u0 u1 u2 u3 : Value} {vx : Value} {ll : List (List Int)} (h : (w6.cell? p = some u0 ∧ w6.cell? q = some u1) ∧ (w6.cell? r = some u2 ∧ w6.cell? t = some u3) ∧ ReadSS w6 vx ll ∧ Below w5.heap.size w5 w6) (hb : Below w6.heap.size w6 w7) :
    (w7.cell? p = some u0 ∧ w7.cell? q = some u1) ∧ (w7.cell? r = some u2 ∧ w7.cell? t = some u3) ∧ ReadSS w7 vx ll ∧ Below w5.heap.size w5 w7 := by
  have k : ∀ {a : Addr} {u : Value}, w6.cell? a = some u → w7.cell? a = some u := fun e => (hb.cell (World.block_lt_of_cell? w6 _ e)).trans e
  exact ⟨⟨k h.1.1, k h.1.2⟩, ⟨k h.2.1.1, k h.2.1.2⟩, h.2.2.1.kept hb, h.2.2.2.trans (hb.mono h.2.2.2.size)⟩
theorem keepQ {w5 w6 w7 : World} {p q r t : Addr} {u0 u1 u2 u3 : Value} (h : ((w6.cell? p = some u0 ∧ w6.cell? q = some u1) ∧ w6.cell? r = some u2 ∧ w6.cell? t = some u3) ∧ Below w5.heap.size w5 w6) (hb : Below w6.heap.size w6 w7) :
    ((w7.cell? p = some u0 ∧ w7.cell? q = some u1) ∧ w7.cell? r = some u2 ∧ w7.cell? t = some u3) ∧ Below w5.heap.size w5 w7 := by
  have k : ∀ {a : Addr} {u : Value}, w6.cell? a = some u → w7.cell? a = some u := fun e => (hb.cell (World.block_lt_of_cell? w6 _ e)).trans e
  exact ⟨⟨⟨k h.1.1.1, k h.1.1.2⟩, k h.1.2.1, k h.1.2.2⟩, h.2.trans (hb.mono h.2.size)⟩
end Go.Proofs.YtpkcffbfgocndaaGreatDoor
namespace Go.Proofs.YtpkcffbfgocndaaGreatDoor

/-- By the first value that differs; the shorter one first. -/
def lessR : List Int → List Int → Bool
  | [], [] => false
  | [], _ :: _ => true
  | _ :: _, [] => false
  | a :: s1, b :: bs => if a = b then lessR s1 bs else decide (a < b)
theorem lessR_irrefl (a : List Int) : lessR a a = false := by
  induction a with
  | nil => rfl
  | cons x t ih => simp [lessR, ih]
theorem lessR_trans : ∀ (a b c : List Int), lessR a b = true → lessR b c = true → lessR a c = true
  | [], b, c, h1, h2 => by
    cases c with
    | nil => cases b <;> simp [lessR] at h1 h2
    | cons => rfl
  | x :: s1, [], c, h1, _ => by simp [lessR] at h1
  | x :: s1, y :: bs, [], _, h2 => by simp [lessR] at h2
  | x :: s1, y :: bs, z :: cs, h1, h2 => by
    unfold lessR at *
    by_cases hxy : x = y
    · subst hxy
      rw [if_pos rfl] at h1
      by_cases hxz : x = z
      · subst hxz; rw [if_pos rfl] at *; exact lessR_trans s1 bs cs h1 h2
      · rw [if_neg hxz] at *; exact h2
    · rw [if_neg hxy] at h1
      by_cases hyz : y = z
      · subst hyz; rw [if_neg hxy]; exact h1
      · rw [if_neg hyz] at h2
        simp only [decide_eq_true_eq] at h1 h2
        rw [if_neg (by omega)]
        simp only [decide_eq_true_eq]; omega
theorem lessR_total : ∀ (a b : List Int), lessR a b = false → lessR b a = false → a = b
  | [], [], _, _ => rfl
  | [], _ :: _, h, _ => by simp [lessR] at h
  | _ :: _, [], _, h => by simp [lessR] at h
  | x :: s1, y :: bs, h1, h2 => by
    unfold lessR at h1 h2
    by_cases hxy : x = y
    · subst hxy
      rw [if_pos rfl] at h1 h2
      rw [lessR_total s1 bs h1 h2]
    · rw [if_neg hxy] at h1
      rw [if_neg (fun e => hxy e.symm)] at h2
      simp only [decide_eq_false_iff_not] at h1 h2
      omega
theorem lessR_asymm {a b : List Int} (h : lessR a b = true) : lessR b a = false := by
  cases hb : lessR b a with
  | false => rfl
  | true => have := lessR_trans a b a h hb; rw [lessR_irrefl] at this; cases this
/-- In order, no two equal. -/
def Asc (l : List (List Int)) : Prop := l.Pairwise fun a b => lessR a b = true
theorem asc_unique : ∀ (a b : List (List Int)), Asc a → Asc b → (∀ x, x ∈ a ↔ x ∈ b) → a = b
  | [], [], _, _, _ => rfl
  | [], y :: bs, _, _, h => by have := (h y).2 (by simp); cases this
  | x :: s1, [], _, _, h => by have := (h x).1 (by simp); cases this
  | x :: s1, y :: bs, ha, hb, h => by
    unfold Asc at ha hb
    rw [List.pairwise_cons] at ha hb
    have hxy : x = y := by
      have h1 := (h x).1 (by simp)
      have h2 := (h y).2 (by simp)
      rw [List.mem_cons] at h1 h2
      rcases h1 with h1 | h1
      · exact h1
      · rcases h2 with h2 | h2
        · exact h2.symm
        · have e1 := ha.1 y h2
          have e2 := hb.1 x h1
          rw [lessR_asymm e1] at e2; cases e2
    subst hxy
    have hx1 : ∀ z ∈ s1, z ≠ x := fun z hz e => by have := ha.1 z hz; rw [e, lessR_irrefl] at this; cases this
    have hx2 : ∀ z ∈ bs, z ≠ x := fun z hz e => by have := hb.1 z hz; rw [e, lessR_irrefl] at this; cases this
    rw [asc_unique s1 bs ha.2 hb.2 fun z => ⟨fun hz => by
      have := (h z).1 (by simp [hz])
      rw [List.mem_cons] at this
      exact this.resolve_left (hx1 z hz), fun hz => by
      have := (h z).2 (by simp [hz])
      rw [List.mem_cons] at this
      exact this.resolve_left (hx2 z hz)⟩]
/-- The place of a row in a list in order. -/
def insR (x : List Int) : List (List Int) → List (List Int)
  | [] => [x]
  | y :: t => if lessR x y = true then x :: y :: t else if lessR y x = true then y :: insR x t else y :: t
theorem insR_mem (x z : List Int) (l : List (List Int)) : z ∈ insR x l ↔ z = x ∨ z ∈ l := by
  induction l with
  | nil => simp [insR]
  | cons y t ih =>
    unfold insR
    by_cases h1 : lessR x y = true
    · rw [if_pos h1]; simp
    · rw [if_neg h1]
      by_cases h2 : lessR y x = true
      · rw [if_pos h2, List.mem_cons, ih, List.mem_cons]
        constructor
        · rintro (h | h | h)
          · exact .inr (.inl h)
          · exact .inl h
          · exact .inr (.inr h)
        · rintro (h | h | h)
          · exact .inr (.inl h)
          · exact .inl h
          · exact .inr (.inr h)
      · rw [if_neg h2]
        have e : x = y := lessR_total x y (by simpa using h1) (by simpa using h2)
        subst e; simp
theorem insR_asc (x : List Int) (l : List (List Int)) (h : Asc l) : Asc (insR x l) := by
  induction l with
  | nil => exact List.pairwise_singleton _ _
  | cons y t ih =>
    unfold Asc at h
    rw [List.pairwise_cons] at h
    unfold insR
    by_cases h1 : lessR x y = true
    · rw [if_pos h1]
      unfold Asc
      rw [List.pairwise_cons, List.pairwise_cons]
      refine ⟨fun z hz => ?_, h⟩
      rw [List.mem_cons] at hz
      rcases hz with rfl | hz
      · exact h1
      · exact lessR_trans _ _ _ h1 (h.1 z hz)
    · rw [if_neg h1]
      by_cases h2 : lessR y x = true
      · rw [if_pos h2]
        unfold Asc
        rw [List.pairwise_cons]
        refine ⟨fun z hz => ?_, ih h.2⟩
        rw [insR_mem] at hz
        rcases hz with rfl | hz
        · exact h2
        · exact h.1 z hz
      · rw [if_neg h2]
        unfold Asc
        rw [List.pairwise_cons]; exact h
/-- The different rows, in order. -/
def onceL (l : List (List Int)) : List (List Int) := l.foldr insR []
theorem onceL_mem (l : List (List Int)) (z : List Int) : z ∈ onceL l ↔ z ∈ l := by
  induction l with
  | nil => simp [onceL]
  | cons x t ih => unfold onceL at *; rw [List.foldr_cons, insR_mem, ih, List.mem_cons]
theorem onceL_asc (l : List (List Int)) : Asc (onceL l) := by
  induction l with
  | nil => exact List.Pairwise.nil
  | cons x t ih => unfold onceL at *; rw [List.foldr_cons]; exact insR_asc _ _ ih
theorem onceL_eq {l m : List (List Int)} (h1 : Asc m) (h2 : ∀ z, z ∈ m ↔ z ∈ l) : m = onceL l :=
  asc_unique m (onceL l) h1 (onceL_asc l) fun z => by rw [h2, onceL_mem]
theorem insR_len (x : List Int) (l : List (List Int)) : (insR x l).length ≤ l.length + 1 := by
  induction l with
  | nil => simp [insR]
  | cons y t ih =>
    unfold insR
    split
    · simp
    · split
      · simp; exact ih
      · simp
theorem onceL_len (l : List (List Int)) : (onceL l).length ≤ l.length := by
  induction l with
  | nil => simp [onceL]
  | cons x t ih => unfold onceL at *; rw [List.foldr_cons, List.length_cons]; have := insR_len x (t.foldr insR []); omega
theorem onceL_rows {l : List (List Int)} {n : Nat} (h : ∀ r ∈ l, r.length = n) : ∀ r ∈ onceL l, r.length = n := fun r hr => h r ((onceL_mem l r).1 hr)

/-! ### Two lists in order, s1 one: rows beside their values -/
def mergeP : List (Value × List Int) → List (Value × List Int) → List (Value × List Int)
  | [], bs => bs
  | a :: s1, [] => a :: s1
  | a :: s1, b :: bs => if lessR a.2 b.2 = true then a :: mergeP s1 (b :: bs) else if lessR b.2 a.2 = true then b :: mergeP (a :: s1) bs else mergeP (a :: s1) bs
termination_by la lb => la.length + lb.length
theorem mergeP_nil_left (bs : List (Value × List Int)) : mergeP [] bs = bs := by unfold mergeP; rfl
theorem mergeP_nil_right (s1 : List (Value × List Int)) : mergeP s1 [] = s1 := by cases s1 <;> (unfold mergeP; rfl)
theorem mergeP_cons (a b : Value × List Int) (s1 bs : List (Value × List Int)) : mergeP (a :: s1) (b :: bs) = if lessR a.2 b.2 = true then a :: mergeP s1 (b :: bs) else if lessR b.2 a.2 = true then b :: mergeP (a :: s1) bs else mergeP (a :: s1) bs := by
  rw [mergeP]
theorem mergeP_mem : ∀ (s1 bs : List (Value × List Int)) (z : Value × List Int), z ∈ mergeP s1 bs → z ∈ s1 ∨ z ∈ bs
  | [], bs, z, h => by rw [mergeP_nil_left] at h; exact .inr h
  | a :: s1, [], z, h => by rw [mergeP_nil_right] at h; exact .inl h
  | a :: s1, b :: bs, z, h => by
    rw [mergeP_cons] at h
    split at h
    · rw [List.mem_cons] at h
      rcases h with rfl | h
      · exact .inl (by simp)
      · exact (mergeP_mem s1 (b :: bs) z h).imp (fun h => by simp [h]) id
    · split at h
      · rw [List.mem_cons] at h
        rcases h with rfl | h
        · exact .inr (by simp)
        · exact (mergeP_mem (a :: s1) bs z h).imp id (fun h => by simp [h])
      · exact (mergeP_mem (a :: s1) bs z h).imp id (fun h => by simp [h])
termination_by s1 bs => s1.length + bs.length
def AscP (l : List (Value × List Int)) : Prop := l.Pairwise fun a b => lessR a.2 b.2 = true
theorem mergeP_asc : ∀ (s1 bs : List (Value × List Int)), AscP s1 → AscP bs → AscP (mergeP s1 bs)
  | [], bs, _, hb => by rw [mergeP_nil_left]; exact hb
  | a :: s1, [], ha, _ => by rw [mergeP_nil_right]; exact ha
  | a :: s1, b :: bs, ha, hb => by
    have ha' := ha
    have hb' := hb
    unfold AscP at ha' hb'
    rw [List.pairwise_cons] at ha' hb'
    rw [mergeP_cons]
    by_cases h1 : lessR a.2 b.2 = true
    · rw [if_pos h1]
      unfold AscP
      rw [List.pairwise_cons]
      refine ⟨fun z hz => ?_, mergeP_asc s1 (b :: bs) ha'.2 hb⟩
      rcases mergeP_mem s1 (b :: bs) z hz with h | h
      · exact ha'.1 z h
      · rw [List.mem_cons] at h
        rcases h with rfl | h
        · exact h1
        · exact lessR_trans _ _ _ h1 (hb'.1 z h)
    · rw [if_neg h1]
      by_cases h2 : lessR b.2 a.2 = true
      · rw [if_pos h2]
        unfold AscP
        rw [List.pairwise_cons]
        refine ⟨fun z hz => ?_, mergeP_asc (a :: s1) bs ha hb'.2⟩
        rcases mergeP_mem (a :: s1) bs z hz with h | h
        · rw [List.mem_cons] at h
          rcases h with rfl | h
          · exact h2
          · exact lessR_trans _ _ _ h2 (ha'.1 z h)
        · exact hb'.1 z h
      · rw [if_neg h2]; exact mergeP_asc (a :: s1) bs ha hb'.2
termination_by s1 bs => s1.length + bs.length
theorem mergeP_rows : ∀ (s1 bs : List (Value × List Int)) (x : List Int), (x ∈ (mergeP s1 bs).map (·.2)) ↔ x ∈ s1.map (·.2) ∨ x ∈ bs.map (·.2)
  | [], bs, x => by rw [mergeP_nil_left]; simp
  | a :: s1, [], x => by rw [mergeP_nil_right]; simp
  | a :: s1, b :: bs, x => by
    rw [mergeP_cons]
    by_cases h1 : lessR a.2 b.2 = true
    · rw [if_pos h1]
      have ih := mergeP_rows s1 (b :: bs) x
      simp only [List.map_cons, List.mem_cons] at ih ⊢
      rw [ih]
      constructor
      · rintro (h | h | h | h)
        · exact .inl (.inl h)
        · exact .inl (.inr h)
        · exact .inr (.inl h)
        · exact .inr (.inr h)
      · rintro ((h | h) | h | h)
        · exact .inl h
        · exact .inr (.inl h)
        · exact .inr (.inr (.inl h))
        · exact .inr (.inr (.inr h))
    · rw [if_neg h1]
      have ih := mergeP_rows (a :: s1) bs x
      by_cases h2 : lessR b.2 a.2 = true
      · rw [if_pos h2]
        simp only [List.map_cons, List.mem_cons] at ih ⊢
        rw [ih]
        constructor
        · rintro (h | (h | h) | h)
          · exact .inr (.inl h)
          · exact .inl (.inl h)
          · exact .inl (.inr h)
          · exact .inr (.inr h)
        · rintro ((h | h) | h | h)
          · exact .inr (.inl (.inl h))
          · exact .inr (.inl (.inr h))
          · exact .inl h
          · exact .inr (.inr h)
      · have e := lessR_total _ _ (by simpa using h1) (by simpa using h2)
        rw [if_neg h2]
        simp only [List.map_cons, List.mem_cons] at ih ⊢
        rw [ih]
        constructor
        · rintro ((h | h) | h)
          · exact .inl (.inl h)
          · exact .inl (.inr h)
          · exact .inr (.inr h)
        · rintro ((h | h) | h | h)
          · exact .inl (.inl h)
          · exact .inl (.inr h)
          · exact .inl (.inl (by rw [h, e]))
          · exact .inr h
termination_by s1 bs => s1.length + bs.length
theorem mergeP_pair {R : Value × List Int → Value × List Int → Prop} : ∀ (s1 bs : List (Value × List Int)), s1.Pairwise R → bs.Pairwise R → (∀ x ∈ s1, ∀ y ∈ bs, R x y ∧ R y x) → (mergeP s1 bs).Pairwise R
  | [], bs, _, hb, _ => by rw [mergeP_nil_left]; exact hb
  | a :: s1, [], ha, _, _ => by rw [mergeP_nil_right]; exact ha
  | a :: s1, b :: bs, ha, hb, hab => by
    have ha' := ha
    have hb' := hb
    rw [List.pairwise_cons] at ha' hb'
    rw [mergeP_cons]
    split
    · rw [List.pairwise_cons]
      refine ⟨fun z hz => ?_, mergeP_pair s1 (b :: bs) ha'.2 hb (fun x hx y hy => hab x (by simp [hx]) y hy)⟩
      rcases mergeP_mem s1 (b :: bs) z hz with h | h
      · exact ha'.1 z h
      · exact (hab a (by simp) z h).1
    · split
      · rw [List.pairwise_cons]
        refine ⟨fun z hz => ?_, mergeP_pair (a :: s1) bs ha hb'.2 (fun x hx y hy => hab x hx y (by simp [hy]))⟩
        rcases mergeP_mem (a :: s1) bs z hz with h | h
        · exact (hab z h b (by simp)).2
        · exact hb'.1 z h
      · exact mergeP_pair (a :: s1) bs ha hb'.2 (fun x hx y hy => hab x hx y (by simp [hy]))
termination_by s1 bs => s1.length + bs.length
theorem mergeP_len : ∀ (s1 bs : List (Value × List Int)), (mergeP s1 bs).length ≤ s1.length + bs.length
  | [], bs => by rw [mergeP_nil_left]; simp
  | a :: s1, [] => by rw [mergeP_nil_right]; simp
  | a :: s1, b :: bs => by
    rw [mergeP_cons]
    split
    · have := mergeP_len s1 (b :: bs); simp at *; omega
    · split
      · have := mergeP_len (a :: s1) bs; simp at *; omega
      · have := mergeP_len (a :: s1) bs; simp at *; omega
termination_by s1 bs => s1.length + bs.length
end Go.Proofs.YtpkcffbfgocndaaGreatDoor
