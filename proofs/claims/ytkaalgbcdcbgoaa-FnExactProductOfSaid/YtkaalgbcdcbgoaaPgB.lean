/- The program's firstClasses, areTogether, IsFiner, by contract. Conditions: as stated. -/
import Derived.Test.YtkaalgbcdcbgoaaMapI
import Derived.Test.YtkaalgbcdcbgoaaPgA
namespace Go.Proofs.Ytkaalgbcdcbgoaa
open Go.RowKit

/-- The first class that has a row, if there is one. -/
def fcl (q : List (List Int)) (x : Int) : Option Int := if clsI q x < 0 then none else some (clsI q x)
theorem clsI_app : ∀ (q : List (List Int)) (s : List Int) (x : Int), clsI (q ++ [s]) x = if clsI q x < 0 then (if x ∈ s then (q.length : Int) else -1) else clsI q x
  | [], s, x => by simp [clsI]
  | r :: t, s, x => by
    have ih := clsI_app t s x
    have h1 := clsI_ge t x
    have h2 := clsI_ge (t ++ [s]) x
    show (if x ∈ r then 0 else if clsI (t ++ [s]) x < 0 then -1 else clsI (t ++ [s]) x + 1) = if (if x ∈ r then 0 else if clsI t x < 0 then -1 else clsI t x + 1) < 0 then (if x ∈ s then ((r :: t).length : Int) else -1) else (if x ∈ r then 0 else if clsI t x < 0 then -1 else clsI t x + 1)
    rw [ih]
    by_cases ha : x ∈ r <;> by_cases hb : clsI t x < 0 <;> by_cases hc : x ∈ s <;> simp only [ha, hb, hc, if_true, if_false, List.length_cons] <;> first | rfl | omega | (split <;> omega) | (split <;> split <;> omega)
theorem fcl_app (q : List (List Int)) (s : List Int) (x : Int) : fcl (q ++ [s]) x = if clsI q x < 0 then (if x ∈ s then some (q.length : Int) else none) else some (clsI q x) := by
  unfold fcl
  rw [clsI_app]
  by_cases hb : clsI q x < 0 <;> by_cases hc : x ∈ s <;> simp only [hb, hc, if_true, if_false] <;> first | rfl | (rw [if_neg (by omega)]) | (rw [if_pos (by omega)])
theorem fcl_nil (x : Int) : none = fcl [] x := rfl
theorem fcl_empty (q : List (List Int)) (x : Int) : fcl q x = fcl (q ++ [[]]) x := by
  rw [fcl_app]; unfold fcl; simp
theorem fcl_more (q : List (List Int)) (s : List Int) (y : Int) (h : fcl (q ++ [s]) y = none) (z : Int) : (if z = y then some (q.length : Int) else fcl (q ++ [s]) z) = fcl (q ++ [s ++ [y]]) z := by
  rw [fcl_app] at *
  rw [fcl_app]
  by_cases hz : z = y
  · subst hz
    rw [if_pos rfl]
    split at h
    · next h1 => rw [if_pos h1, if_pos (by simp)]
    · cases h
  · rw [if_neg hz]
    have : z ∈ s ++ [y] ↔ z ∈ s := by simp [hz]
    simp only [this]
theorem fcl_same (q : List (List Int)) (s : List Int) (y c : Int) (h : fcl (q ++ [s]) y = some c) (z : Int) : fcl (q ++ [s]) z = fcl (q ++ [s ++ [y]]) z := by
  rw [fcl_app] at *
  rw [fcl_app]
  by_cases hz : z = y
  · subst hz
    split at h
    · next h1 =>
      split at h
      · next h2 => simp [h1, h2]
      · cases h
    · next h1 => simp [h1]
  · have : z ∈ s ++ [y] ↔ z ∈ s := by simp [hz]
    simp only [this]
theorem fcl_bd (q : List (List Int)) (x c : Int) (h : fcl q x = some c) : 0 ≤ c ∧ c < q.length := by
  unfold fcl at h
  have := clsI_ge q x
  split at h
  · cases h
  · cases h; omega
theorem fcl_take (p : List (List Int)) (i : Nat) (h : i < p.length) : p.take (i + 1) = p.take i ++ [p.getD i []] := take_succ_getD p [] i h

theorem I64ss.wf {p : List (List Int)} (h : I64ss p) {i : Nat} (hi : i < p.length) {x : Int} (hx : x ∈ p.getD i []) : (Lit.int .i64 x).wf = true := by
  have := h i hi x hx
  exact WalkArith.wf_i64 (by omega)
set_option maxHeartbeats 1600000 in
theorem firstClasses_any (v : Value) (p : List (List Int)) (w : World) (hr : ReadSS w v p) (hl : p.length ≤ 1048576) (ht : tot p ≤ 1048576) (hwf : I64ss p) :
    Calls Try.prog 46 #[v] w fun e w' => e = .returned (.map (some w.heap.size)) ∧ MapI w' w.heap.size 1048576 (fcl p) ∧ Below w.heap.size w w' := by
  obtain ⟨a, cap, rfl, ha⟩ := hr
  have HA := Lib.hid ha
  clear ha
  have HW := Lib.hid (fun i (hi : i < p.length) x (hx : x ∈ p.getD i []) => I64ss.wf hwf hi hx)
  clear hwf
  have HT := Lib.hid (fun i (hi : i < p.length) => tot_succ hi)
  have HT2 := Lib.hid (fun i => tot_take p i)
  have hmm := @run_makeMap Try.prog
  have hm0 := (MapI.made w).congr fcl_nil
  have hb0 := (Below.refl w.heap.size w).alloc (Nat.le_refl _) (.map #[] 0)
  go_enter Try.func46, Try.ntmps46
  go_wp2_with fail
  go_loopw [13] (fun iv wr => ∃ i : Nat, i ≤ p.length ∧ iv = .int .i64 (i : Int) ∧ MapI wr w.heap.size (tot (p.take i)) (fcl (p.take i)) ∧ Below w.heap.size w wr) (fun iv _ => p.length - (intOf iv).toNat)
  case atStart => exact ⟨0, by omega, rfl, by simpa [tot] using hm0, hb0⟩
  case round =>
    clear hm0 hb0
    obtain ⟨i, hi, rfl, hm, hb⟩ := hrel
    obtain ⟨w1, hw1⟩ : ∃ w', w' = wr := ⟨_, rfl⟩
    rw [← hw1] at hm hb ⊢
    clear hw1
    by_cases hlt : i < p.length
    · obtain ⟨xa, u, rfl, hx, hu⟩ := HA.out i hlt
      replace hx := (hb.cell (World.block_lt_of_cell? w _ hx)).trans hx
      have htk := HT.out i hlt
      have htk2 := HT2.out (i + 1)
      have HWF := Lib.hid (HW.out i hlt)
      have HFT := Lib.hid (fcl_take p i hlt)
      obtain ⟨r, hrr⟩ : ∃ r, r = p.getD i [] := ⟨_, rfl⟩
      rw [← hrr] at hu htk HWF HFT
      clear hrr
      obtain ⟨q, hq⟩ : ∃ q, q = p.take i := ⟨_, rfl⟩
      have hql : q.length = i := by rw [hq, List.length_take]; omega
      rw [← hq] at hm htk HFT
      have HQL := Lib.hid hql
      clear hq hql
      obtain ⟨ar, cr, rfl, har⟩ := hu
      have HR := Lib.hid har
      clear har
      have hm2 : MapI w1 w.heap.size (tot q + 0) (fcl (q ++ [r.take 0])) := hm.congr (fun x => by rw [List.take_zero]; exact fcl_empty q x)
      clear hm
      have z0 : (0 : Int) ≤ (i : Int) := by omega
      have z1 : (i : Int) < (p.length : Int) := by omega
      have htq : tot q + r.length ≤ 1048576 := by omega
      have htk3 := Lib.hid htk
      clear htk htk2
      go_wp2_with fail
      go_loopw [20] (fun kv wr => ∃ k : Nat, k ≤ r.length ∧ kv = .int .i64 (k : Int) ∧ MapI wr w.heap.size (tot q + k) (fcl (q ++ [r.take k])) ∧ Below w.heap.size w wr) (fun kv _ => r.length - (intOf kv).toNat)
      case atStart => exact ⟨0, by omega, rfl, hm2, hb⟩
      case round =>
        clear hm2 hb hx
        obtain ⟨k, hk, rfl, hm, hb⟩ := hrel
        by_cases hlk : k < r.length
        · obtain ⟨xr, rfl, hxk⟩ := HR.out k hlk
          replace hxk := (hb.cell (World.block_lt_of_cell? w _ hxk)).trans hxk
          have HTS : Hid (r.take (k + 1) = r.take k ++ [r[k]]) := Lib.hid (by rw [List.take_succ_eq_append_getElem hlk])
          have hyw := HWF.out r[k] (List.getElem_mem _)
          obtain ⟨y, hy⟩ : ∃ y, y = r[k] := ⟨_, rfl⟩
          rw [← hy] at hxk hyw HTS
          clear hy
          have z2 : (0 : Int) ≤ (k : Int) := by omega
          have z3 : (k : Int) < (r.length : Int) := by omega
          obtain ⟨s, hs⟩ : ∃ s, s = r.take k := ⟨_, rfl⟩
          rw [← hs] at hm HTS
          clear hs
          have hzs := hb.size
          cases hf : fcl (q ++ [s]) y with
          | none =>
            have HM := Lib.hid (fcl_more q s y hf)
            have HF := Lib.hid hf
            have HMM := Lib.hid hm
            clear hf hm
            have hiw : (Lit.int .i64 (i : Int)).wf = true := WalkArith.wf_i64 (by omega)
            go_wp2_with (first | (at_lookup; refine mapI_look_none _ rfl _ _ rfl _ _ _ rfl HMM.out _ rfl hyw HF.out ?_) | (at_mapUpdate; refine mapI_store _ rfl _ _ _ rfl _ _ _ rfl HMM.out (by unfold maxLen; omega) _ _ rfl rfl hyw hiw ?_; intro w5 hm5 hg5))
            have hm6 : MapI w5 w.heap.size (tot q + (k + 1)) (fcl (q ++ [r.take (k + 1)])) := hm5.congr (fun z => by rw [HTS.out, ← HM.out z, HQL.out])
            have hb6 := hb.grown hg5 hb.size (fun j hj => by cases hj; exact Nat.le_refl _)
            go_round
            case rel => exact ⟨k + 1, by omega, by go_num, hm6, hb6⟩
            case measure => simp [intOf]; omega
          | some c =>
            have HM := Lib.hid (fcl_same q s y c hf)
            have HF := Lib.hid hf
            have HMM := Lib.hid hm
            clear hf hm
            go_wp2_with (at_lookup; refine mapI_look_some _ rfl _ _ rfl _ _ _ rfl HMM.out _ _ rfl hyw HF.out ?_)
            have hm6 : MapI wr w.heap.size (tot q + (k + 1)) (fcl (q ++ [r.take (k + 1)])) := (HMM.out.mono (by omega)).congr (fun z => by rw [HTS.out, ← HM.out z])
            go_round
            case rel => exact ⟨k + 1, by omega, by go_num, hm6, hb⟩
            case measure => simp [intOf]; omega
        · obtain rfl : k = r.length := by omega
          have hm6 : MapI wr w.heap.size (tot (p.take (i + 1))) (fcl (p.take (i + 1))) := by
            rw [htk3.out, HFT.out]
            have h := hm
            rwa [List.take_length] at h
          clear hm
          go_wp2_with fail
          go_round
          case rel => exact ⟨i + 1, by omega, by go_num, hm6, hb⟩
          case measure => simp [intOf]; omega
    · obtain rfl : i = p.length := by omega
      have hm2 := hm
      rw [List.take_length] at hm2
      have hm3 := hm2.mono ht
      go_wp2_with fail
      go_ret
      exact ⟨rfl, hm3, hb⟩
end Go.Proofs.Ytkaalgbcdcbgoaa
