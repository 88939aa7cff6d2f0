/- Tables in the laws: markTable, heldTable, by contract. Conditions: as stated. -/
import Derived.Test.YtkaalgbcdcbgoaaTabs3
namespace Go.Proofs.Ytkaalgbcdcbgoaa
open Go.RowKit

/-- What holds at row k of an owned slice of rows, and what becomes of the whole when that row alone is written. -/
theorem OwnSS.at {w : World} {B C : Nat} {v : Value} {ll : List (List Int)} (h : OwnSS w B C v ll) {k : Nat} (hk : k < ll.length) :
    ∃ g cap u, v = .slice (some ⟨g, 0, none⟩) ll.length cap ∧ w.cell? ⟨g, k, none⟩ = some u ∧ OwnI w B u (ll.getD k []) ∧ (∀ q, u.ownBlock = some q → q < C) ∧
      ∀ w' l', OwnI w' B u l' → w.grownBy w' u.ownBlock → OwnSS w' B C v (ll.set k l') := by
  obtain ⟨V, o1, o2, o3, o4⟩ := h
  rcases ownsRow_shape o1 with ⟨rfl, hn⟩ | ⟨g, cap, rfl, -, -, -⟩
  · omega
  · have hap : ∀ i, i < ll.length → (V i).ownBlock ≠ some g := fun i hi => row_apart o1 (o3 i hi).1 g rfl
    refine ⟨g, cap, V k, rfl, ?_, (o3 k hk).1, (o3 k hk).2, fun w' l' h1 h2 => ⟨V, ?_, o2, fun i hi => ?_, ?_⟩⟩
    · rw [World.ownsRow.cellAt o1 k (by omega)]; simp [hk]
    · rw [List.length_set]
      exact World.ownsRow.kept o1 h2 (.inr (fun e => hap k hk (by rw [← e]; rfl)))
    · rw [List.length_set] at hi
      rw [getD_set _ _ _ _ _ hk]
      by_cases hik : i = k
      · subst hik; rw [if_pos rfl]; exact ⟨h1, (o3 i hi).2⟩
      · rw [if_neg hik]
        refine ⟨(o3 i hi).1.keptBy h2 (fun q hq hq2 => ?_), (o3 i hi).2⟩
        rcases Nat.lt_or_gt_of_ne hik with hlt | hgt
        · exact o4 i k hlt hk q hq2 hq
        · exact o4 k i hgt hi q hq hq2
    · rw [List.length_set]; exact o4
/-- The rows ll, the first i of them written over with k, k + 1, and so on. -/
def mk (k : Int) (ll : List (List Int)) (i : Nat) : List (List Int) := (List.range ll.length).map fun j => if j < i then upFrom (k + (tot (ll.take j) : Int)) (ll.getD j []).length else ll.getD j []
theorem mk_len (k : Int) (ll : List (List Int)) (i : Nat) : (mk k ll i).length = ll.length := by simp [mk]
theorem mk_get (k : Int) (ll : List (List Int)) (i j : Nat) (hj : j < ll.length) : (mk k ll i).getD j [] = if j < i then upFrom (k + (tot (ll.take j) : Int)) (ll.getD j []).length else ll.getD j [] := by
  rw [List.getD_eq_getElem?_getD, List.getElem?_eq_getElem (by rw [mk_len]; exact hj)]; simp [mk]
theorem ext_getD {a b : List (List Int)} (hl : a.length = b.length) (h : ∀ j, j < a.length → a.getD j [] = b.getD j []) : a = b := by
  apply List.ext_getElem hl
  intro j h1 h2
  have := h j h1
  rwa [List.getD_eq_getElem?_getD, List.getD_eq_getElem?_getD, List.getElem?_eq_getElem h1, List.getElem?_eq_getElem h2] at this
theorem mk_zero (k : Int) (ll : List (List Int)) : mk k ll 0 = ll :=
  ext_getD (mk_len _ _ _) fun j hj => by rw [mk_len] at hj; rw [mk_get _ _ _ _ hj, if_neg (by omega)]
theorem mk_set (k : Int) (ll : List (List Int)) (i : Nat) (hi : i < ll.length) : (mk k ll i).set i (upFrom (k + (tot (ll.take i) : Int)) (ll.getD i []).length) = mk k ll (i + 1) := by
  refine ext_getD (by rw [List.length_set, mk_len, mk_len]) fun j hj => ?_
  rw [List.length_set, mk_len] at hj
  rw [getD_set _ _ _ _ _ (by rw [mk_len]; exact hi), mk_get _ _ _ _ hj, mk_get _ _ _ _ hj]
  by_cases h : j = i
  · subst h; rw [if_pos rfl, if_pos (by omega)]
  · rw [if_neg h]
    by_cases h2 : j < i
    · rw [if_pos h2, if_pos (by omega)]
    · rw [if_neg h2, if_neg (by omega)]
/-- The rows written over. -/
def upRows (k : Int) (ll : List (List Int)) : List (List Int) := mk k ll ll.length
theorem upRows_len (k : Int) (ll : List (List Int)) : (upRows k ll).length = ll.length := mk_len _ _ _
theorem upRows_get (k : Int) (ll : List (List Int)) (j : Nat) (hj : j < ll.length) : (upRows k ll).getD j [] = upFrom (k + (tot (ll.take j) : Int)) (ll.getD j []).length := by
  unfold upRows; rw [mk_get _ _ _ _ hj, if_pos hj]
def MarkSS (k : Int) (ll : List (List Int)) (B C : Nat) (v : Value) (w : World) (e : Ending) (w' : World) : Prop := e = .returned (.int .i64 (k + (tot ll : Int))) ∧ OwnSS w' B C v (upRows k ll) ∧ Mid B C w w'
set_option maxHeartbeats 800000 in
theorem markIntSS_any (v : Value) (ll : List (List Int)) (k : Int) (B C : Nat) (w : World) (ho : OwnSS w B C v ll) (hl : ll.length ≤ 1048576) (ht : tot ll ≤ 1048576) (hk0 : 0 ≤ k) (hk1 : k ≤ 1048576) :
    Calls Try.prog 15 #[v, .int .i64 k] w (MarkSS k ll B C v w) := by
  obtain ⟨a, cap, rfl, -⟩ := ho.read
  go_enter Try.func15, Try.ntmps15
  go_wp2_with fail
  go_loopw [1, 5] (fun kv iv wr => ∃ (i : Nat) (r : Int), i ≤ ll.length ∧ kv = .int .i64 r ∧ iv = .int .i64 (i : Int) ∧ Hid (r = k + (tot (ll.take i) : Int)) ∧ OwnSS wr B C (.slice a ll.length cap) (mk k ll i) ∧ Mid B C w wr) (fun _ iv _ => ll.length - (intOf iv).toNat)
  case atStart => exact ⟨0, k, by omega, rfl, rfl, Lib.hid (by simp [tot]), by rw [mk_zero]; exact ho, Mid.refl _ _ _⟩
  case round =>
    obtain ⟨i, r, hi, rfl, rfl, hr, ho, hm⟩ := hrel
    by_cases hlt : i < ll.length
    · have hi' : i < (mk k ll i).length := by rw [mk_len]; exact hlt
      obtain ⟨g, cap', u, hv, hcell, ou, huC, hnext⟩ := ho.at hi'
      simp at hv
      obtain ⟨rfl, -, -⟩ := hv
      rw [mk_get _ _ _ _ hlt, if_neg (by omega)] at ou
      have HN := Lib.hid hnext
      have HT := Lib.hid (tot_succ hlt)
      have b1 := tot_take ll i
      have b2 := tot_get hlt
      have b3 := tot_take ll (i + 1)
      have hrb : 0 ≤ r ∧ r ≤ 2097152 := by have := hr.out; omega
      have HK := Lib.hid (markInt_any u _ r B wr ou (by omega) (by omega) (by omega))
      have z0 : (0 : Int) ≤ (i : Int) := by omega
      have z1 : (i : Int) < (ll.length : Int) := by omega
      obtain ⟨row, hrow⟩ : ∃ row, ll.getD i [] = row := ⟨_, rfl⟩
      have HS := Lib.hid (mk_set k ll i hlt)
      rw [hrow] at HK HT HS b2
      clear hnext ou hrow hi'
      go_wp2_with fail
      refine HK.out.mono ?_
      rintro e w1 ⟨rfl, ou1, hg1⟩
      have ho2 := HN.out w1 _ ou1 hg1
      rw [← hr.out] at HS
      rw [HS.out] at ho2
      have hm2 := hm.trans (Mid.ofGrown hg1 (fun q hq => ⟨(ou1.lt q hq).1, huC q hq⟩))
      go_wp2_with fail
      go_roundw
      case rel => exact ⟨i + 1, r + row.length, by omega, rfl, by go_num, Lib.hid (by rw [HT.out, hr.out]; omega), ho2, hm2⟩
      case measure => simp [intOf]; omega
    · obtain rfl : i = ll.length := by omega
      go_wp2_with fail
      go_ret
      exact ⟨ret_int (by rw [hr.out, List.take_length]), ho, hm⟩
set_option maxHeartbeats 800000 in
theorem heldIntSS_any (v : Value) (ll : List (List Int)) (k : Int) (w : World) (hr : ReadSS w v (upRows k ll)) (hl : ll.length ≤ 1048576) (ht : tot ll ≤ 1048576) (hk0 : 0 ≤ k) (hk1 : k ≤ 1048576) :
    Calls Try.prog 16 #[v, .int .i64 k] w fun e w' => e = .returned (.int .i64 (k + (tot ll : Int))) ∧ w = w' := by
  obtain ⟨a, cap, rfl, ha⟩ := hr
  rw [upRows_len] at ha ⊢
  have HA := Lib.hid ha
  clear ha
  go_enter Try.func16, Try.ntmps16
  go_wp2_with fail
  go_loop [1, 5] (fun kv iv => ∃ (i : Nat) (r : Int), i ≤ ll.length ∧ kv = .int .i64 r ∧ iv = .int .i64 (i : Int) ∧ Hid (r = k + (tot (ll.take i) : Int))) (fun _ iv => ll.length - (intOf iv).toNat)
  case atStart => exact ⟨0, k, by omega, rfl, rfl, Lib.hid (by simp [tot])⟩
  case round =>
    obtain ⟨i, r, hi, rfl, rfl, hr⟩ := hrel
    by_cases hlt : i < ll.length
    · obtain ⟨x, u, rfl, hx, hu⟩ := HA.out i hlt
      rw [upRows_get _ _ _ hlt, ← hr.out] at hu
      have HT := Lib.hid (tot_succ hlt)
      have b1 := tot_take ll i
      have b2 := tot_get hlt
      have b3 := tot_take ll (i + 1)
      have hrb : 0 ≤ r ∧ r ≤ 2097152 := by have := hr.out; omega
      have HK := Lib.hid (heldInt_any u _ r w hu (by omega) (by omega) (by omega))
      have z0 : (0 : Int) ≤ (i : Int) := by omega
      have z1 : (i : Int) < (ll.length : Int) := by omega
      obtain ⟨row, hrow⟩ : ∃ row, (ll.getD i []).length = row := ⟨_, rfl⟩
      rw [hrow] at HK HT b2
      clear hu hrow
      go_wp2_with fail
      refine HK.out.mono ?_
      rintro e w' ⟨rfl, rfl⟩
      go_wp2_with fail
      go_round
      case rel => exact ⟨i + 1, r + row, by omega, rfl, by go_num, Lib.hid (by rw [HT.out, hr.out]; omega)⟩
      case measure => simp [intOf]; omega
    · obtain rfl : i = ll.length := by omega
      go_wp2_with fail
      go_ret
      exact ⟨ret_int (by rw [hr.out, List.take_length]), rfl⟩
def MarkT (k : Int) (ll : List (List Int)) (B C : Nat) (v : Value) (w : World) (e : Ending) (w' : World) : Prop := e = .returned (.int .i64 (k + (tot ll : Int))) ∧ OwnSS w' B C v (upRows k ll) ∧ Mid B C w w'
theorem markTable_any (c : Int) (v : Value) (ll : List (List Int)) (k : Int) (B C : Nat) (w : World) (ho : OwnSS w B C v ll) (hC : C ≤ w.heap.size) (hl : ll.length ≤ 1048576) (ht : tot ll ≤ 1048576) (hk0 : 0 ≤ k) (hk1 : k ≤ 1048576) :
    Calls Try.prog 14 #[.agg #[.int .i64 c, v], .int .i64 k] w (MarkT k ll B C v w) := by
  have HK := Lib.hid (fun (w' : World) (ho : OwnSS w' B C v ll) => markIntSS_any v ll k B C w' ho hl ht hk0 hk1)
  obtain ⟨a, cap, rfl, -⟩ := ho.read
  have ho2 := ho.same (w' := w.alloc (.cells #[.int .i64 c, .slice a ll.length cap] 27)) (fun q _ hq => Below.heap_alloc _ _ _ (by omega))
  have HM := Lib.hid ((Mid.ofBelow ((Below.refl w.heap.size w).alloc (Nat.le_refl _) (.cells #[.int .i64 c, .slice a ll.length cap] 27))) : Mid B C w _)
  go_enter Try.func14, Try.ntmps14
  go_wp2_with fail
  refine (HK.out _ ho2).mono ?_
  rintro e w1 ⟨rfl, ho3, hm⟩
  go_wp2_with fail
  go_ret
  exact ⟨rfl, ho3, HM.out.trans hm⟩
/-! ### Rows of ints with their bounds -/
def OwnIR (w : World) (B C : Nat) (v : Value) (l : List Int) : Prop := OwnI w B v l ∧ ∀ g, v.ownBlock = some g → g < C
theorem OwnI.range {w : World} {B : Nat} {v : Value} {l : List Int} (h : OwnI w B v l) : OwnIR w B w.heap.size v l := ⟨h, fun g hg => (h.lt g hg).2⟩
theorem OwnIR.same {w w' : World} {B C : Nat} {v : Value} {l : List Int} (h : OwnIR w B C v l) (hs : Same B C w w') : OwnIR w' B C v l := ⟨h.1.same fun g hg => hs g (h.1.lt g hg).1 (h.2 g hg), h.2⟩
theorem OwnIR.read {w : World} {B C : Nat} {v : Value} {l : List Int} (h : OwnIR w B C v l) : ReadI w v l := h.1.read
def MarkI (k : Int) (l : List Int) (B C : Nat) (v : Value) (w : World) (e : Ending) (w' : World) : Prop := e = .returned (.int .i64 (k + (l.length : Int))) ∧ OwnIR w' B C v (upFrom k l.length) ∧ Mid B C w w'
theorem markIntR_any (v : Value) (l : List Int) (k : Int) (B C : Nat) (w : World) (ho : OwnIR w B C v l) (hl : l.length ≤ 1000000000) (hk0 : -1000000000 ≤ k) (hk1 : k ≤ 1000000000) :
    Calls Try.prog 40 #[v, .int .i64 k] w (MarkI k l B C v w) :=
  (markInt_any v l k B w ho.1 hl hk0 hk1).mono fun _ _ ⟨a, b, c⟩ => ⟨a, ⟨b, ho.2⟩, Mid.ofGrown c fun g hg => ⟨(ho.1.lt g hg).1, ho.2 g hg⟩⟩
theorem eqIntR_any (v v' : Value) (l : List Int) (w : World) (hr : ReadI w v l) (hr' : ReadI w v' l) (hl : l.length ≤ 1000000000) :
    Calls Try.prog 39 #[v, v'] w fun e w' => e = .returned (.bool true) ∧ Below w.heap.size w w' :=
  (eqInt_any v v' l l w hr hr' hl).mono fun _ _ ⟨a, b⟩ => ⟨by rw [a]; unfold eqB; simp, b⟩
theorem heldIntR_any (v : Value) (n : Nat) (k : Int) (w : World) (hr : ReadI w v (upFrom k n)) (hl : n ≤ 1000000000) (hk0 : -1000000000 ≤ k) (hk1 : k ≤ 1000000000) :
    Calls Try.prog 41 #[v, .int .i64 k] w fun e w' => e = .returned (.int .i64 (k + (n : Int))) ∧ Below w.heap.size w w' :=
  (heldInt_any v n k w hr hl hk0 hk1).mono fun _ w' ⟨a, b⟩ => ⟨a, by rw [← b]; exact Below.refl _ _⟩
end Go.Proofs.Ytkaalgbcdcbgoaa
