/- FnAgrees, the walk's pieces: the law's sameInts and has; a region whose callees lay blocks of their own, walked once; plain facts. Conditions: as stated. -/
import Derived.Test.YtchdceglcjjggaaAgrDraw3
import Derived.Test.YtchdceglcjjggaaAgrQ
import Derived.Deep.Quiet
import Derived.Deep.RegionHeld3
import Derived.BigQuiet
namespace Go.Proofs.Ytchdceglcjjggaa
open Go.RowKit

/-- A world that has all that w has, and perhaps new blocks. -/
structure Bel (w : World) where
  x : World
  h : Below w.heap.size w x
instance (w : World) : Inhabited (Bel w) := ⟨⟨w, Below.refl _ w⟩⟩
theorem wp_region_bel {P : Program} {id : Nat} {Q : Exit → Act → World → Prop} {a : Act} {w : World} {l : List Oper} (hm : P.follows .mixedOrders = true) (hB : Region.lexB .any l.toArray = true)
    (h : wpQuiet P l.toArray (fun w' => ∃ p : Bel w, w' = p.x) (fun a' => ∀ w', (∃ p : Bel w, w' = p.x) → Q .normal a' w') l a) : (Code.region id l.toArray true).wp P Q a w :=
  wp_region_quiet (C := fun w' => ∃ p : Bel w, w' = p.x) hm hB ⟨⟨w.drew, (Below.refl _ w).drew⟩, rfl⟩ (by simpa using h)
theorem Calls.bel {P : Program} {f : FuncId} {args : Array Value} {w : World} {p : Bel w} {v : Value}
    (h : Calls P f args p.x fun e w' => e = .returned v ∧ Below p.x.heap.size p.x w') : Calls P f args p.x fun e w'' => e = .returned v ∧ ∃ q : Bel w, w'' = q.x :=
  h.mono fun _ w' ⟨he, hb⟩ => ⟨he, ⟨w', p.h.trans (hb.mono p.h.size)⟩, rfl⟩
set_option maxHeartbeats 800000 in
theorem sameInts_any (v v' : Value) (l l' : List Int) (w : World) (hr : ReadI w v l) (hr' : ReadI w v' l') (hl : l.length ≤ 1000000000) :
    Calls Try.prog 15 #[v, v'] w fun e w' => e = .returned (.bool (eqB l l')) ∧ ∃ m, w' = w.drewN m := by
  obtain ⟨a, cap, rfl, ha⟩ := hr
  obtain ⟨a', cap', rfl, ha'⟩ := hr'
  have HA := Lib.hid ha
  have HA' := Lib.hid ha'
  clear ha ha'
  by_cases hlen : l.length = l'.length
  · have hne : ((l.length : Int) != (l'.length : Int)) = false := by simp [hlen]
    have HL := Lib.hid hlen
    clear hlen
    go_enter Try.func15, Try.ntmps15
    go_wp2_with fail
    go_loopw [5] (fun iv wr => ∃ (k n : Nat), k ≤ l.length ∧ iv = .int .i64 (k : Int) ∧ Hid (l.take k = l'.take k) ∧ wr = w.drewN n) (fun iv _ => l.length - (intOf iv).toNat)
    case atStart => exact ⟨0, 0, by omega, rfl, Lib.hid rfl, rfl⟩
    case round =>
      obtain ⟨k, n, hk, rfl, hsame, rfl⟩ := hrel
      by_cases hlt : k < l.length
      · have hlt' : k < l'.length := by have := HL.out; omega
        obtain ⟨x, rfl, hx⟩ := HA.out k hlt
        obtain ⟨x', rfl, hx'⟩ := HA'.out k hlt'
        have z0 : (0 : Int) ≤ (k : Int) := by omega
        have z1 : (k : Int) < (l.length : Int) := by omega
        have z2 : (k : Int) < (l'.length : Int) := by omega
        by_cases he : l[k] = l'[k]
        · have hb : (l[k] != l'[k]) = false := by simp [he]
          have HE := Lib.hid he
          clear he
          go_wp2_with fail
          go_quiet (fail)
          go_wp2_with fail
          go_roundw
          case rel => exact ⟨k + 1, _, by omega, by go_num, Lib.hid (by rw [List.take_succ_eq_append_getElem hlt, List.take_succ_eq_append_getElem hlt', hsame.out, HE.out]), rfl⟩
          case measure => simp [intOf]; omega
        · have hb : (l[k] != l'[k]) = true := by simpa using he
          have HE := Lib.hid he
          clear he
          go_wp2_with fail
          go_quiet (fail)
          go_wp2_with fail
          go_ret
          exact ⟨ret_b (by unfold eqB; rw [decide_eq_false]; intro e; apply HE.out; simp only [e]), _, World.drewN_drewN _ _ _⟩
      · go_wp2_with fail
        go_ret
        exact ⟨ret_b (by
          unfold eqB
          rw [decide_eq_true]
          have := hsame.out
          rwa [List.take_of_length_le (by omega), List.take_of_length_le (by have := HL.out; omega)] at this), _, rfl⟩
  · have hne : ((l.length : Int) != (l'.length : Int)) = true := by simp; omega
    have HL := Lib.hid hlen
    clear hlen
    go_enter Try.func15, Try.ntmps15
    go_wp2_with fail
    go_ret
    exact ⟨ret_b (by unfold eqB; rw [decide_eq_false]; intro e; exact HL.out (by rw [e])), 0, rfl⟩

theorem rows_few {ll : List (List Int)} {m : Nat} (h : ∀ r ∈ ll, r.length ≤ m) (i : Nat) (hi : i < ll.length) : (ll.getD i []).length ≤ m :=
  h _ (by rw [List.getD_eq_getElem?_getD, List.getElem?_eq_getElem hi]; exact List.getElem_mem _)
/-- A table in a box: its two cells, and its rows readable. -/
def TB (w : World) (T : Nat) (c : Int) (v : Value) (ll : List (List Int)) : Prop := BoxIs w T c v ∧ ReadSS w v ll
theorem TB.kept {w w' : World} {T : Nat} {c : Int} {v : Value} {ll : List (List Int)} (h : TB w T c v ll) (hb : Below w.heap.size w w') : TB w' T c v ll := ⟨h.1.kept hb h.1.lt, h.2.kept hb⟩
theorem TB.mk' {w : World} {c : Int} {v : Value} {ll : List (List Int)} (h : ReadSS w v ll) : TB (w.alloc (.cells #[.int .i64 c, v] 26)) w.heap.size c v ll :=
  ⟨heap_alloc_new w _, h.kept ((Below.refl _ w).alloc (Nat.le_refl _) _)⟩
theorem TB.bel {w : World} {T : Nat} {c : Int} {v : Value} {ll : List (List Int)} (h : TB w T c v ll) (p : Bel w) : TB p.x T c v ll := h.kept p.h

theorem lawHas_any (v : Value) (l : List Int) (x : Int) (w : World) (hr : ReadI w v l) (hl : l.length ≤ 1000000000) (hx : x ∈ l) :
    Calls Try.prog 19 #[v, .int .i64 x] w fun e w' => e = .returned (.bool true) ∧ w = w' := by
  obtain ⟨a, cap, rfl, ha⟩ := hr
  have HA := Lib.hid ha
  have HX := Lib.hid hx
  clear ha hx
  go_enter Try.func19, Try.ntmps19
  go_wp2_with fail
  go_loop [5] (fun iv => ∃ k : Nat, k ≤ l.length ∧ iv = .int .i64 (k : Int) ∧ Hid (x ∉ l.take k)) (fun iv => l.length - (intOf iv).toNat)
  case atStart => exact ⟨0, by omega, rfl, Lib.hid (by simp)⟩
  case round =>
    obtain ⟨k, hk, rfl, hno⟩ := hrel
    by_cases hlt : k < l.length
    · obtain ⟨y, rfl, hy⟩ := HA.out k hlt
      have z0 : (0 : Int) ≤ (k : Int) := by omega
      have z1 : (k : Int) < (l.length : Int) := by omega
      have HT := Lib.hid (List.take_succ_eq_append_getElem hlt)
      obtain ⟨q, hq⟩ : ∃ q, q = l[k] := ⟨_, rfl⟩
      rw [← hq] at hy HT
      clear hq
      by_cases he : q = x
      · subst he
        have hb : (q == q) = true := by simp
        go_wp2_with fail
        go_ret
        exact ⟨rfl, rfl⟩
      · have hb : (q == x) = false := by simpa using he
        have HN := Lib.hid he
        clear he
        go_wp2_with fail
        go_round
        case rel => exact ⟨k + 1, by omega, by go_num, Lib.hid (by rw [HT.out, List.mem_append, List.mem_singleton]; rintro (h | h); exact hno.out h; exact HN.out h.symm)⟩
        case measure => simp [intOf]; omega
    · obtain rfl : k = l.length := by omega
      exact (hno.out (by rw [List.take_length]; exact HX.out)).elim
theorem eqC_swap (m a b : Int) : eqC m a b = eqC m b a := by
  unfold eqC
  rw [decide_eq_decide]
  constructor
  · rintro ⟨h1, h2, h3⟩
    exact ⟨h1, h2.symm, by rw [← h2]; exact h3⟩
  · rintro ⟨h1, h2, h3⟩
    exact ⟨h1, h2.symm, by rw [← h2]; exact h3⟩
theorem agrTo_swap (m : Int) (r s : List Int) : ∀ n, agrTo m r s n = agrTo m s r n
  | 0 => rfl
  | n + 1 => by unfold agrTo; rw [agrTo_swap m r s n, eqC_swap]
theorem agrOf_swap (c : Int) (ll : List (List Int)) (m i k : Int) : agrOf c ll m i k = agrOf c ll m k i := by
  unfold agrOf
  rw [agrTo_swap]
  by_cases h : fineT c ll m = true ∧ (0 ≤ i ∧ i ≤ ll.length - 1) ∧ (0 ≤ k ∧ k ≤ ll.length - 1)
  · rw [if_pos h, if_pos ⟨h.1, h.2.2, h.2.1⟩]
  · rw [if_neg h, if_neg fun h' => h ⟨h'.1, h'.2.2, h'.2.1⟩]
theorem agrOf_in (c : Int) (ll : List (List Int)) (m : Int) (i k : Nat) (hf : fineT c ll m = true) (h : i < k) (hk : k < ll.length) : agrOf c ll m (i : Int) (k : Int) ∈ agrS c ll m := by
  unfold agrOf agrS
  rw [if_pos hf, if_pos ⟨hf, by omega, by omega⟩, agOut_mem _ _ _ _ _ (Nat.le_refl _)]
  exact ⟨i, k, by omega, h, hk, rfl⟩
theorem max_fact {l : List Int} {y z : Int} (hy : y ∈ maxS l) (hz : z ∈ l) : z = y ∨ (bits .and .i64 z y == y) = false := by
  unfold maxS at hy
  split at hy
  · obtain ⟨-, -, -, h⟩ := (mxTo_mem l y _).mp hy
    obtain ⟨t, ht, e⟩ := mem_getD.mp hz
    have := (topK_iff l y _).mp h t ht
    rw [← e, Bool.or_eq_true, and_swap] at this
    rcases this with h' | h'
    · exact Or.inl (by simpa using h')
    · exact Or.inr (by simpa using h')
  · cases hy
theorem min_fact {l : List Int} {y z : Int} (hy : y ∈ minS l) (hz : z ∈ l) : z = y ∨ (bits .and .i64 z y == z) = false := by
  unfold minS at hy
  split at hy
  · obtain ⟨-, -, -, h⟩ := (mnTo_mem l y _).mp hy
    obtain ⟨t, ht, e⟩ := mem_getD.mp hz
    have := (lowK_iff l y _).mp h t ht
    rw [← e, Bool.or_eq_true, and_swap] at this
    rcases this with h' | h'
    · exact Or.inl (by simpa using h')
    · exact Or.inr (by simpa using h')
  · cases hy
theorem eqB_same (l : List Int) : eqB l l = true := by unfold eqB; simp
theorem below_draws (w : World) (m : Nat) : Below w.heap.size w (w.drewN m) := below_drewN (Below.refl _ _) m
theorem box_new (w : World) (o : Obj) : Below w.heap.size w (w.alloc o) := (Below.refl _ w).alloc (Nat.le_refl _) o
end Go.Proofs.Ytchdceglcjjggaa
