/- FnTables, the walk's pieces: the law's sameInts; a region whose callees lay blocks of their own, walked once; plain facts. Conditions: as stated. -/
import Derived.Test.YtpkcffbfgocndaaGreatDoorTabDraw4g
import Derived.Test.YtpkcffbfgocndaaGreatDoorMi
import Derived.Test.YtpkcffbfgocndaaGreatDoorMo
import Derived.Test.YtpkcffbfgocndaaGreatDoorMl
import Derived.Deep.Quiet
import Derived.Deep.RegionHeld3
import Derived.BigQuiet
namespace Go.Proofs.YtpkcffbfgocndaaGreatDoor
open Go.RowKit

/-- A world that has all that w has, and perhaps new blocks. -/
structure Bel (w : World) where
  x : World
  h : Below w.heap.size w x
instance (w : World) : Inhabited (Bel w) := ⟨⟨w, Below.refl _ w⟩⟩
theorem wp_region_bel {P : Program} {id : Nat} {Q : Exit → Act → World → Prop} {a : Act} {w : World} {l : List Oper} (hm : P.follows .mixedOrders = true) (hB : Region.lexB .any l.toArray = true)
    (h : wpQuiet P l.toArray (fun w' => ∃ p : Bel w, w' = p.x) (fun a' => ∀ w', (∃ p : Bel w, w' = p.x) → Q .normal a' w') l a) : (Code.region id l.toArray true).wp P Q a w :=
  wp_region_quiet (C := fun w' => ∃ p : Bel w, w' = p.x) hm hB ⟨⟨w.drew, (Below.refl _ w).drew⟩, rfl⟩ (by simpa using h)
theorem Calls.bel {P : Program} {f : FuncId} {args : Array Value} {w : World} {p : Bel w} {v : Value}
    (h : Calls P f args p.x fun e w' => e = .returned v ∧ Below p.x.heap.size p.x w') : Calls P f args p.x fun e w'' => e = .returned v ∧ ∃ q : Bel w, w'' = q.x :=
  h.mono fun _ w' ⟨he, hb⟩ => ⟨he, ⟨w', p.h.trans (hb.mono p.h.size)⟩, rfl⟩
set_option maxHeartbeats 800000 in
theorem sameInts_any (v v' : Value) (l l' : List Int) (w : World) (hr : ReadI w v l) (hr' : ReadI w v' l') (hl : l.length ≤ 1000000000) :
    Calls Tryz.prog 16 #[v, v'] w fun e w' => e = .returned (.bool (eqB l l')) ∧ ∃ m, w' = w.drewN m := by
  obtain ⟨a, cap, rfl, ha⟩ := hr
  obtain ⟨a', cap', rfl, ha'⟩ := hr'
  have HA := Lib.hid ha
  have HA' := Lib.hid ha'
  clear ha ha'
  by_cases hlen : l.length = l'.length
  · have hne : ((l.length : Int) != (l'.length : Int)) = false := by simp [hlen]
    have HL := Lib.hid hlen
    clear hlen
    go_enter Tryz.func16, Tryz.ntmps16
    go_wp2_with fail
    go_loopw [5] (fun iv wr => ∃ (k n : Nat), k ≤ l.length ∧ iv = .int .i64 (k : Int) ∧ Hid (l.take k = l'.take k) ∧ wr = w.drewN n) (fun iv _ => l.length - (intOf iv).toNat)
    case atStart => exact ⟨0, 0, by omega, rfl, Lib.hid rfl, rfl⟩
    case round =>
      obtain ⟨k, n, hk, rfl, hsame, rfl⟩ := hrel
      by_cases hlt : k < l.length
      · have hlt' : k < l'.length := by have := HL.out; omega
        obtain ⟨x, rfl, hx⟩ := HA.out k hlt
        obtain ⟨x', rfl, hx'⟩ := HA'.out k hlt'
        have z0 : (0 : Int) ≤ (k : Int) := by omega
        have z1 : (k : Int) < (l.length : Int) := by omega
        have z2 : (k : Int) < (l'.length : Int) := by omega
        by_cases he : l[k] = l'[k]
        · have hb : (l[k] != l'[k]) = false := by simp [he]
          have HE := Lib.hid he
          clear he
          go_wp2_with fail
          go_quiet (fail)
          go_wp2_with fail
          go_roundw
          case rel => exact ⟨k + 1, _, by omega, by go_num, Lib.hid (by rw [List.take_succ_eq_append_getElem hlt, List.take_succ_eq_append_getElem hlt', hsame.out, HE.out]), rfl⟩
          case measure => simp [intOf]; omega
        · have hb : (l[k] != l'[k]) = true := by simpa using he
          have HE := Lib.hid he
          clear he
          go_wp2_with fail
          go_quiet (fail)
          go_wp2_with fail
          go_ret
          exact ⟨ret_b (by unfold eqB; rw [decide_eq_false]; intro e; apply HE.out; simp only [e]), _, World.drewN_drewN _ _ _⟩
      · go_wp2_with fail
        go_ret
        exact ⟨ret_b (by
          unfold eqB
          rw [decide_eq_true]
          have := hsame.out
          rwa [List.take_of_length_le (by omega), List.take_of_length_le (by have := HL.out; omega)] at this), _, rfl⟩
  · have hne : ((l.length : Int) != (l'.length : Int)) = true := by simp; omega
    have HL := Lib.hid hlen
    clear hlen
    go_enter Tryz.func16, Tryz.ntmps16
    go_wp2_with fail
    go_ret
    exact ⟨ret_b (by unfold eqB; rw [decide_eq_false]; intro e; exact HL.out (by rw [e])), 0, rfl⟩

theorem fmtT_small (c : Int) (ll : List (List Int)) : (fmtT c ll).size ≤ 1048576 := by
  unfold fmtT
  split
  · rename_i h
    have h1 := rowsB_len h ll.length (Nat.le_refl _)
    obtain ⟨h2, h3, h4⟩ := isT_bd h
    have h5 := head_len ⟨c.toNat, by omega⟩
    simp only at h5
    rw [show ((c.toNat : Nat) : Int) = c by omega] at h5
    show (headB c ++ rowsB ll ll.length).toArray.size ≤ 1048576
    rw [List.size_toArray, List.length_append]
    omega
  · show (0 : Nat) ≤ 1048576; omega
theorem fmt_back (c : Int) (ll : List (List Int)) : parOk (fmtT c ll) = isT c ll ∧ (isT c ll = true → parC (fmtT c ll) = c ∧ parR (fmtT c ll) = ll) := by
  cases h : isT c ll with
  | true =>
    obtain ⟨h1, h2, h3⟩ := par_of h rfl
    exact ⟨h3, fun _ => ⟨h1, h2⟩⟩
  | false =>
    have e : fmtT c ll = ⟨#[]⟩ := by unfold fmtT; rw [if_neg (by rw [h]; simp)]
    rw [e]
    obtain ⟨-, -, h3⟩ := par_no (s := ⟨#[]⟩) (fun c' ll' h' he => fmtT_ne h' (by rw [he]))
    exact ⟨h3, fun h => by cases h⟩
theorem rows_few {ll : List (List Int)} {m : Nat} (h : ∀ r ∈ ll, r.length ≤ m) (i : Nat) (hi : i < ll.length) : (ll.getD i []).length ≤ m :=
  h _ (by rw [List.getD_eq_getElem?_getD, List.getElem?_eq_getElem hi]; exact List.getElem_mem _)
theorem eqTb_same (c : Int) (ll : List (List Int)) : eqTb c c ll ll = true := by unfold eqTb; simp
/-- A table in a box: its two cells, and its rows readable. -/
def TB (w : World) (T : Nat) (c : Int) (v : Value) (ll : List (List Int)) : Prop := BoxIs w T c v ∧ ReadSS w v ll
theorem TB.kept {w w' : World} {T : Nat} {c : Int} {v : Value} {ll : List (List Int)} (h : TB w T c v ll) (hb : Below w.heap.size w w') : TB w' T c v ll := ⟨h.1.kept hb h.1.lt, h.2.kept hb⟩
theorem TB.mk' {w : World} {c : Int} {v : Value} {ll : List (List Int)} (h : ReadSS w v ll) : TB (w.alloc (.cells #[.int .i64 c, v] 26)) w.heap.size c v ll :=
  ⟨heap_alloc_new w _, h.kept ((Below.refl _ w).alloc (Nat.le_refl _) _)⟩
theorem TB.bel {w : World} {T : Nat} {c : Int} {v : Value} {ll : List (List Int)} (h : TB w T c v ll) (p : Bel w) : TB p.x T c v ll := h.kept p.h
/-- Neighbours of a projection differ. -/
theorem proj_ne (c : Int) (ll : List (List Int)) (q : Int) {k : Nat} (h : k + 1 < (projR c ll q).length) : eqB ((projR c ll q).getD (k + 1) []) ((projR c ll q).getD k []) = false := by
  unfold projR at h ⊢
  split
  · rename_i hq
    rw [if_pos hq] at h
    have ha := List.pairwise_iff_getElem.1 (onceL_asc (ll.map (rowOf q))) k (k + 1) (by omega) h (by omega)
    rw [List.getD_eq_getElem?_getD, List.getD_eq_getElem?_getD, List.getElem?_eq_getElem h, List.getElem?_eq_getElem (show k < _ by omega)]
    unfold eqB
    rw [decide_eq_false]
    intro e
    simp only [Option.getD_some] at e
    rw [e, lessR_irrefl] at ha
    cases ha
  · rename_i hq
    rw [if_neg hq] at h
    simp at h
/-- Four cells and all that was there are kept. -/
theorem held4 {w0 w w' : World} {p q r s : Addr} {a b c d : Value} (h : w.cell? p = some a ∧ w.cell? q = some b ∧ w.cell? r = some c ∧ w.cell? s = some d ∧ Below w0.heap.size w0 w) (k : Below w.heap.size w w') :
    w'.cell? p = some a ∧ w'.cell? q = some b ∧ w'.cell? r = some c ∧ w'.cell? s = some d ∧ Below w0.heap.size w0 w' :=
  ⟨(k.cell (World.block_lt_of_cell? w _ h.1)).trans h.1, (k.cell (World.block_lt_of_cell? w _ h.2.1)).trans h.2.1, (k.cell (World.block_lt_of_cell? w _ h.2.2.1)).trans h.2.2.1, (k.cell (World.block_lt_of_cell? w _ h.2.2.2.1)).trans h.2.2.2.1, h.2.2.2.2.trans (k.mono h.2.2.2.2.size)⟩
theorem eqB_same (l : List Int) : eqB l l = true := by unfold eqB; simp
theorem below_draws (w : World) (m : Nat) : Below w.heap.size w (w.drewN m) := below_drewN (Below.refl _ _) m
theorem box_new (w : World) (o : Obj) : Below w.heap.size w (w.alloc o) := (Below.refl _ w).alloc (Nat.le_refl _) o
end Go.Proofs.YtpkcffbfgocndaaGreatDoor
