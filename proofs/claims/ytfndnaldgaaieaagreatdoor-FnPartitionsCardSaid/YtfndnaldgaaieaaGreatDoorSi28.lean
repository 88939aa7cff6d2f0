/- Texts of this claim, merged: PgB, PgD, PrtD. Conditions: as stated. -/
import Derived.Test.YtfndnaldgaaieaaGreatDoorSi27
namespace Go.Proofs.YtfndnaldgaaieaaGreatDoor
open Go.RowKit

/-- The first class that has a row, if there is one. -/
def fcl (q : List (List Int)) (x : Int) : Option Int := if clsI q x < 0 then none else some (clsI q x)
theorem clsI_app : ∀ (q : List (List Int)) (s : List Int) (x : Int), clsI (q ++ [s]) x = if clsI q x < 0 then (if x ∈ s then (q.length : Int) else -1) else clsI q x
  | [], s, x => by simp [clsI]
  | r :: t, s, x => by
    have ih := clsI_app t s x
    have h1 := clsI_ge t x
    have h2 := clsI_ge (t ++ [s]) x
    show (if x ∈ r then 0 else if clsI (t ++ [s]) x < 0 then -1 else clsI (t ++ [s]) x + 1) = if (if x ∈ r then 0 else if clsI t x < 0 then -1 else clsI t x + 1) < 0 then (if x ∈ s then ((r :: t).length : Int) else -1) else (if x ∈ r then 0 else if clsI t x < 0 then -1 else clsI t x + 1)
    rw [ih]
    by_cases ha : x ∈ r <;> by_cases hb : clsI t x < 0 <;> by_cases hc : x ∈ s <;> simp only [ha, hb, hc, if_true, if_false, List.length_cons] <;> first | rfl | omega | (split <;> omega) | (split <;> split <;> omega)
theorem fcl_app (q : List (List Int)) (s : List Int) (x : Int) : fcl (q ++ [s]) x = if clsI q x < 0 then (if x ∈ s then some (q.length : Int) else none) else some (clsI q x) := by
  unfold fcl
  rw [clsI_app]
  by_cases hb : clsI q x < 0 <;> by_cases hc : x ∈ s <;> simp only [hb, hc, if_true, if_false] <;> first | rfl | (rw [if_neg (by omega)]) | (rw [if_pos (by omega)])
theorem fcl_nil (x : Int) : none = fcl [] x := rfl
theorem fcl_empty (q : List (List Int)) (x : Int) : fcl q x = fcl (q ++ [[]]) x := by
  rw [fcl_app]; unfold fcl; simp
theorem fcl_more (q : List (List Int)) (s : List Int) (y : Int) (h : fcl (q ++ [s]) y = none) (z : Int) : (if z = y then some (q.length : Int) else fcl (q ++ [s]) z) = fcl (q ++ [s ++ [y]]) z := by
  rw [fcl_app] at *
  rw [fcl_app]
  by_cases hz : z = y
  · subst hz
    rw [if_pos rfl]
    split at h
    · next h1 => rw [if_pos h1, if_pos (by simp)]
    · cases h
  · rw [if_neg hz]
    have : z ∈ s ++ [y] ↔ z ∈ s := by simp [hz]
    simp only [this]
theorem fcl_same (q : List (List Int)) (s : List Int) (y c : Int) (h : fcl (q ++ [s]) y = some c) (z : Int) : fcl (q ++ [s]) z = fcl (q ++ [s ++ [y]]) z := by
  rw [fcl_app] at *
  rw [fcl_app]
  by_cases hz : z = y
  · subst hz
    split at h
    · next h1 =>
      split at h
      · next h2 => simp [h1, h2]
      · cases h
    · next h1 => simp [h1]
  · have : z ∈ s ++ [y] ↔ z ∈ s := by simp [hz]
    simp only [this]
theorem fcl_bd (q : List (List Int)) (x c : Int) (h : fcl q x = some c) : 0 ≤ c ∧ c < q.length := by
  unfold fcl at h
  have := clsI_ge q x
  split at h
  · cases h
  · cases h; omega
theorem fcl_take (p : List (List Int)) (i : Nat) (h : i < p.length) : p.take (i + 1) = p.take i ++ [p.getD i []] := take_succ_getD p [] i h

theorem I64ss.wf {p : List (List Int)} (h : I64ss p) {i : Nat} (hi : i < p.length) {x : Int} (hx : x ∈ p.getD i []) : (Lit.int .i64 x).wf = true := by
  have := h i hi x hx
  exact WalkArith.wf_i64 (by omega)
set_option maxHeartbeats 1600000 in
theorem firstClasses_any (v : Value) (p : List (List Int)) (w : World) (hr : ReadSS w v p) (hl : p.length ≤ 1048576) (ht : tot p ≤ 1048576) (hwf : I64ss p) :
    Calls Tryz.prog 44 #[v] w fun e w' => e = .returned (.map (some w.heap.size)) ∧ MapI w' w.heap.size 1048576 (fcl p) ∧ Below w.heap.size w w' := by
  obtain ⟨a, cap, rfl, ha⟩ := hr
  have HA := Lib.hid ha
  clear ha
  have HW := Lib.hid (fun i (hi : i < p.length) x (hx : x ∈ p.getD i []) => I64ss.wf hwf hi hx)
  clear hwf
  have HT := Lib.hid (fun i (hi : i < p.length) => tot_succ hi)
  have HT2 := Lib.hid (fun i => tot_take p i)
  have hmm := @run_makeMap Tryz.prog
  have hm0 := (MapI.made w).congr fcl_nil
  have hb0 := (Below.refl w.heap.size w).alloc (Nat.le_refl _) (.map #[] 0)
  go_enter Tryz.func44, Tryz.ntmps44
  go_wp2_with fail
  go_loopw [13] (fun iv wr => ∃ i : Nat, i ≤ p.length ∧ iv = .int .i64 (i : Int) ∧ MapI wr w.heap.size (tot (p.take i)) (fcl (p.take i)) ∧ Below w.heap.size w wr) (fun iv _ => p.length - (intOf iv).toNat)
  case atStart => exact ⟨0, by omega, rfl, by simpa [tot] using hm0, hb0⟩
  case round =>
    clear hm0 hb0
    obtain ⟨i, hi, rfl, hm, hb⟩ := hrel
    obtain ⟨w1, hw1⟩ : ∃ w', w' = wr := ⟨_, rfl⟩
    rw [← hw1] at hm hb ⊢
    clear hw1
    by_cases hlt : i < p.length
    · obtain ⟨xa, u, rfl, hx, hu⟩ := HA.out i hlt
      replace hx := (hb.cell (World.block_lt_of_cell? w _ hx)).trans hx
      have htk := HT.out i hlt
      have htk2 := HT2.out (i + 1)
      have HWF := Lib.hid (HW.out i hlt)
      have HFT := Lib.hid (fcl_take p i hlt)
      obtain ⟨r, hrr⟩ : ∃ r, r = p.getD i [] := ⟨_, rfl⟩
      rw [← hrr] at hu htk HWF HFT
      clear hrr
      obtain ⟨q, hq⟩ : ∃ q, q = p.take i := ⟨_, rfl⟩
      have hql : q.length = i := by rw [hq, List.length_take]; omega
      rw [← hq] at hm htk HFT
      have HQL := Lib.hid hql
      clear hq hql
      obtain ⟨ar, cr, rfl, har⟩ := hu
      have HR := Lib.hid har
      clear har
      have hm2 : MapI w1 w.heap.size (tot q + 0) (fcl (q ++ [r.take 0])) := hm.congr (fun x => by rw [List.take_zero]; exact fcl_empty q x)
      clear hm
      have z0 : (0 : Int) ≤ (i : Int) := by omega
      have z1 : (i : Int) < (p.length : Int) := by omega
      have htq : tot q + r.length ≤ 1048576 := by omega
      have htk3 := Lib.hid htk
      clear htk htk2
      go_wp2_with fail
      go_loopw [20] (fun kv wr => ∃ k : Nat, k ≤ r.length ∧ kv = .int .i64 (k : Int) ∧ MapI wr w.heap.size (tot q + k) (fcl (q ++ [r.take k])) ∧ Below w.heap.size w wr) (fun kv _ => r.length - (intOf kv).toNat)
      case atStart => exact ⟨0, by omega, rfl, hm2, hb⟩
      case round =>
        clear hm2 hb hx
        obtain ⟨k, hk, rfl, hm, hb⟩ := hrel
        by_cases hlk : k < r.length
        · obtain ⟨xr, rfl, hxk⟩ := HR.out k hlk
          replace hxk := (hb.cell (World.block_lt_of_cell? w _ hxk)).trans hxk
          have HTS : Hid (r.take (k + 1) = r.take k ++ [r[k]]) := Lib.hid (by rw [List.take_succ_eq_append_getElem hlk])
          have hyw := HWF.out r[k] (List.getElem_mem _)
          obtain ⟨y, hy⟩ : ∃ y, y = r[k] := ⟨_, rfl⟩
          rw [← hy] at hxk hyw HTS
          clear hy
          have z2 : (0 : Int) ≤ (k : Int) := by omega
          have z3 : (k : Int) < (r.length : Int) := by omega
          obtain ⟨s, hs⟩ : ∃ s, s = r.take k := ⟨_, rfl⟩
          rw [← hs] at hm HTS
          clear hs
          have hzs := hb.size
          cases hf : fcl (q ++ [s]) y with
          | none =>
            have HM := Lib.hid (fcl_more q s y hf)
            have HF := Lib.hid hf
            have HMM := Lib.hid hm
            clear hf hm
            have hiw : (Lit.int .i64 (i : Int)).wf = true := WalkArith.wf_i64 (by omega)
            go_wp2_with (first | (at_lookup; refine mapI_look_none _ rfl _ _ rfl _ _ _ rfl HMM.out _ rfl hyw HF.out ?_) | (at_mapUpdate; refine mapI_store _ rfl _ _ _ rfl _ _ _ rfl HMM.out (by unfold maxLen; omega) _ _ rfl rfl hyw hiw ?_; intro w5 hm5 hg5))
            have hm6 : MapI w5 w.heap.size (tot q + (k + 1)) (fcl (q ++ [r.take (k + 1)])) := hm5.congr (fun z => by rw [HTS.out, ← HM.out z, HQL.out])
            have hb6 := hb.grown hg5 hb.size (fun j hj => by cases hj; exact Nat.le_refl _)
            go_round
            case rel => exact ⟨k + 1, by omega, by go_num, hm6, hb6⟩
            case measure => simp [intOf]; omega
          | some c =>
            have HM := Lib.hid (fcl_same q s y c hf)
            have HF := Lib.hid hf
            have HMM := Lib.hid hm
            clear hf hm
            go_wp2_with (at_lookup; refine mapI_look_some _ rfl _ _ rfl _ _ _ rfl HMM.out _ _ rfl hyw HF.out ?_)
            have hm6 : MapI wr w.heap.size (tot q + (k + 1)) (fcl (q ++ [r.take (k + 1)])) := (HMM.out.mono (by omega)).congr (fun z => by rw [HTS.out, ← HM.out z])
            go_round
            case rel => exact ⟨k + 1, by omega, by go_num, hm6, hb⟩
            case measure => simp [intOf]; omega
        · obtain rfl : k = r.length := by omega
          have hm6 : MapI wr w.heap.size (tot (p.take (i + 1))) (fcl (p.take (i + 1))) := by
            rw [htk3.out, HFT.out]
            have h := hm
            rwa [List.take_length] at h
          clear hm
          go_wp2_with fail
          go_round
          case rel => exact ⟨i + 1, by omega, by go_num, hm6, hb⟩
          case measure => simp [intOf]; omega
    · obtain rfl : i = p.length := by omega
      have hm2 := hm
      rw [List.take_length] at hm2
      have hm3 := hm2.mono ht
      go_wp2_with fail
      go_ret
      exact ⟨rfl, hm3, hb⟩
end Go.Proofs.YtfndnaldgaaieaaGreatDoor
namespace Go.Proofs.YtfndnaldgaaieaaGreatDoor
open Go.RowKit

theorem isC_iff {rows : Int} {r : List Int} : isC rows r = true ↔ 2 ≤ r.length ∧ (∀ k, k < r.length → 0 ≤ r.getD k 0 ∧ r.getD k 0 ≤ rows - 1) ∧ (∀ k, k + 1 < r.length → r.getD k 0 < r.getD (k + 1) 0) := by
  unfold isC
  rw [Bool.and_eq_true, decide_eq_true_eq, List.all_eq_true]
  constructor
  · rintro ⟨h2, h⟩
    have h3 : ∀ k, k < r.length → (if k = 0 then 0 else r.getD (k - 1) 0 + 1) ≤ r.getD k 0 ∧ r.getD k 0 < rows := fun k hk => by
      have := h k (List.mem_range.2 hk); unfold inC at this; exact of_decide_eq_true this
    have h4 : ∀ k, k < r.length → 0 ≤ r.getD k 0 := by
      intro k
      induction k with
      | zero => intro hk; have := (h3 0 hk).1; simpa using this
      | succ n ih =>
        intro hk
        have h5 := ih (by omega)
        have h6 := (h3 (n + 1) hk).1
        rw [if_neg (by omega), Nat.add_sub_cancel] at h6
        omega
    refine ⟨h2, fun k hk => ⟨h4 k hk, by have := (h3 k hk).2; omega⟩, fun k hk => ?_⟩
    have h6 := (h3 (k + 1) hk).1
    rw [if_neg (by omega), Nat.add_sub_cancel] at h6
    omega
  · rintro ⟨h2, h3, h4⟩
    refine ⟨h2, fun k hk => ?_⟩
    rw [List.mem_range] at hk
    unfold inC
    refine decide_eq_true ⟨?_, by have := (h3 k hk).2; omega⟩
    cases k with
    | zero => rw [if_pos rfl]; exact (h3 0 hk).1
    | succ n =>
      rw [if_neg (by omega), Nat.add_sub_cancel]
      have := h4 n hk; omega
theorem cls_of {p : List (List Int)} {rows : Int} {i : Nat} (h : isC rows (p.getD i []) = true) (h2 : lastTo p i < (p.getD i []).getD 0 0) (h3 : ∀ x ∈ p.getD i [], x ∉ flatTo p i) : Cls p rows i := by
  obtain ⟨a, b, c⟩ := isC_iff.1 h
  exact ⟨a, h2, b, c, h3⟩
theorem cls_isC {p : List (List Int)} {rows : Int} {i : Nat} (h : Cls p rows i) : isC rows (p.getD i []) = true := by
  obtain ⟨a, h2, b, c, h3⟩ := h
  exact isC_iff.2 ⟨a, b, c⟩
theorem partP_bad {p : List (List Int)} {rows : Int} {i : Nat} (hi : i < p.length) (h : ¬ Cls p rows i) : partP p rows = false := by
  cases hp : partP p rows with
  | false => rfl
  | true => exact absurd ((partP_iff.1 hp).2 i hi) h

/-- The cells of block b say which places are among S. -/
def TakAt (w : World) (b : Nat) (S : List Int) : Prop := ∀ j, j < 40 → w.cell? ⟨b, j, none⟩ = some (.bool (decide ((j : Int) ∈ S))) ∧ w.frozen? ⟨b, j, none⟩ = false
theorem TakAt.store {w : World} {b : Nat} {S : List Int} (h : TakAt w b S) (y : Nat) (hy : y < 40) : TakAt (w.setCell ⟨b, y, none⟩ (.bool true)) b (S ++ [(y : Int)]) := by
  intro j hj
  rw [World.frozen?_setCell]
  refine ⟨?_, (h j hj).2⟩
  by_cases hjl : j = y
  · subst hjl
    rw [decide_eq_true (by simp)]
    exact World.cell?_setCell_same _ _ _ (h _ hj).1
  · rw [World.cell?_setCell_other _ _ _ _ (by intro e; simp only [Addr.mk.injEq] at e; omega), (h j hj).1]
    have : (j : Int) ≠ (y : Int) := by omega
    simp [this]
theorem TakAt.fresh (w : World) : TakAt (w.alloc (.cells (Array.replicate 40 (.bool false)) 79)) w.heap.size [] := by
  intro j hj
  refine ⟨?_, World.frozen?_alloc_new _ _ _ _⟩
  rw [World.cell?_alloc_mark w (Array.replicate 40 (.bool false)) 79 (0, 0) j, Array.getElem?_replicate, if_pos hj]
  rfl
theorem TakAt.below {w w' : World} {b C : Nat} {S : List Int} (h : TakAt w b S) (hb : Below C w w') (hC : b < C) : TakAt w' b S := fun j hj => ⟨(hb.cell hC).trans (h j hj).1, (hb.frozen hC).trans (h j hj).2⟩
theorem TakAt.eq {w : World} {b : Nat} {S T : List Int} (h : TakAt w b S) (e : S = T) : TakAt w b T := e ▸ h
theorem asc_not {r : List Int} (h : ∀ k, k + 1 < r.length → r.getD k 0 < r.getD (k + 1) 0) {k : Nat} (hk : k < r.length) : r.getD k 0 ∉ r.take k := by
  intro hm
  obtain ⟨t, ht, he⟩ := (mem_take (by omega)).1 hm
  have := asc_lt (i := t) h (k - t - 1) (by omega)
  rw [show t + (k - t - 1) + 1 = k by omega] at this
  omega
set_option maxHeartbeats 3200000 in
set_option maxRecDepth 100000 in
theorem implIsPartition_any (v : Value) (p : List (List Int)) (rows : Int) (w : World) (hr : ReadSS w v p) (hl : p.length ≤ 1048576) (ht : tot p ≤ 1048576) :
    Calls Tryz.prog 17 #[v, .int .i64 rows] w fun e w' => e = .returned (.bool (partP p rows)) ∧ Below w.heap.size w w' := by
  obtain ⟨a, cap, rfl, ha⟩ := hr
  have HA := Lib.hid ha
  clear ha
  by_cases h0 : rows < 0
  · have HX : Hid (partP p rows = false) := Lib.hid (by unfold partP; rw [decide_eq_false (p := 0 ≤ rows ∧ rows ≤ 40) (by omega)]; simp)
    go_enter Tryz.func17, Tryz.ntmps17
    go_wp2_with fail
    go_ret
    exact ⟨ret_b HX.out, Below.refl _ _⟩
  · by_cases h1 : 40 < rows
    · have HX : Hid (partP p rows = false) := Lib.hid (by unfold partP; rw [decide_eq_false (p := 0 ≤ rows ∧ rows ≤ 40) (by omega)]; simp)
      go_enter Tryz.func17, Tryz.ntmps17
      go_wp2_with fail
      go_ret
      exact ⟨ret_b HX.out, Below.refl _ _⟩
    · go_enter Tryz.func17, Tryz.ntmps17
      go_wp2_with fail
      go_loopw [6, 19] (fun fv iv wr => ∃ i : Nat, i ≤ p.length ∧ iv = .int .i64 (i : Int) ∧ fv = .int .i64 (lastTo p i) ∧ Hid (∀ j, j < i → Cls p rows j) ∧ TakAt wr w.heap.size (flatTo p i) ∧ Below w.heap.size w wr) (fun _ iv _ => p.length - (intOf iv).toNat)
      case atStart => exact ⟨0, by omega, rfl, rfl, Lib.hid (fun j hj => absurd hj (Nat.not_lt_zero _)), (TakAt.fresh w).eq (by unfold flatTo; rfl), (Below.refl w.heap.size w).alloc (Nat.le_refl _) _⟩
      case round =>
        obtain ⟨i, hi, rfl, rfl, hcl, htk, hb⟩ := hrel
        obtain ⟨w1, hw1⟩ : ∃ w', w' = wr := ⟨_, rfl⟩
        rw [← hw1] at htk hb ⊢
        clear hw1
        by_cases hlt : i < p.length
        · obtain ⟨xa, u, rfl, hx, hu⟩ := HA.out i hlt
          replace hx := (hb.cell (World.block_lt_of_cell? w _ hx)).trans hx
          have hlr := tot_get hlt
          have HBAD := Lib.hid (fun h => partP_bad (rows := rows) hlt h)
          have HCI := Lib.hid (fun h => cls_isC (p := p) (rows := rows) (i := i) h)
          have HCO := Lib.hid (fun h => cls_of (p := p) (rows := rows) (i := i) h)
          have HFT := Lib.hid (flatTo_succ p i hlt)
          have HLT : Hid (lastTo p (i + 1) = (p.getD i []).getD 0 0) := Lib.hid rfl
          have HC2 : Hid (Cls p rows i → lastTo p i < (p.getD i []).getD 0 0 ∧ ∀ x ∈ p.getD i [], x ∉ flatTo p i) := Lib.hid (fun h => ⟨h.2.1, h.2.2.2.2⟩)
          obtain ⟨r, hrr⟩ : ∃ r, r = p.getD i [] := ⟨_, rfl⟩
          rw [← hrr] at hu hlr HCI HCO HFT HLT HC2
          clear hrr
          obtain ⟨F, hF⟩ : ∃ F, F = flatTo p i := ⟨_, rfl⟩
          rw [← hF] at htk HFT HCO HC2
          clear hF
          obtain ⟨lf, hlf⟩ : ∃ lf, lf = lastTo p i := ⟨_, rfl⟩
          rw [← hlf] at HCO HC2 ⊢
          clear hlf
          have HIC := Lib.hid (isClass_any u r rows w1 (hu.kept hb) (by omega) (by omega))
          obtain ⟨ar, cr, rfl, har⟩ := hu
          have HR := Lib.hid har
          clear har
          have z0 : (0 : Int) ≤ (i : Int) := by omega
          have z1 : (i : Int) < (p.length : Int) := by omega
          cases hic : isC rows r with
          | false =>
            rw [hic] at HIC HCI
            have HX := Lib.hid (HBAD.out (fun h => by have := HCI.out h; cases this))
            clear hic
            go_wp2_with fail
            refine HIC.out.mono ?_
            rintro e w' ⟨rfl, rfl⟩
            go_wp2_with fail
            go_ret
            exact ⟨ret_b HX.out, hb⟩
          | true =>
            rw [hic] at HIC HCO
            have HII := Lib.hid (isC_iff.1 hic)
            clear hic
            have hr2 : 2 ≤ r.length := HII.out.1
            obtain ⟨xr, hxr, hx0⟩ := HR.out 0 (by omega)
            subst hxr
            rw [Addr.add_zero'] at hx0
            rw [get_getD r 0 (by omega)] at hx0
            replace hx0 := (hb.cell (World.block_lt_of_cell? w _ hx0)).trans hx0
            obtain ⟨f, hf⟩ : ∃ f, f = r.getD 0 0 := ⟨_, rfl⟩
            rw [← hf] at hx0 HLT HCO HC2
            clear hf
            have z4 : (0 : Int) < (r.length : Int) := by omega
            have z5 : 0 < r.length := by omega
            by_cases hfl : f ≤ lf
            · have HX := Lib.hid (HBAD.out (fun h => by have := (HC2.out h).1; omega))
              go_wp2_with fail
              refine HIC.out.mono ?_
              rintro e w' ⟨rfl, rfl⟩
              go_wp2_with fail
              go_ret
              exact ⟨ret_b HX.out, hb⟩
            · have htk0 : TakAt w1 w.heap.size (F ++ r.take 0) := htk.eq (by simp)
              have hzs := hb.size
              clear htk
              have HB1 := Lib.hid hb
              go_wp2_with fail
              refine HIC.out.mono ?_
              rintro e w' ⟨rfl, rfl⟩
              go_wp2_with fail
              go_loopw [39] (fun kv wr => ∃ k : Nat, k ≤ r.length ∧ kv = .int .i64 (k : Int) ∧ TakAt wr w.heap.size (F ++ r.take k) ∧ Hid (∀ x ∈ r.take k, x ∉ F) ∧ Below w.heap.size w wr) (fun kv _ => r.length - (intOf kv).toNat)
              case atStart => exact ⟨0, by omega, rfl, htk0, Lib.hid (by simp), hb⟩
              case round =>
                clear htk0 hb hx0 hx
                obtain ⟨k, hk, rfl, htk, hnew, hb⟩ := hrel
                by_cases hlk : k < r.length
                · obtain ⟨xr', hxr', hxk⟩ := HR.out k hlk
                  obtain rfl := Option.some.inj hxr'
                  clear hxr'
                  replace hxk := (hb.cell (World.block_lt_of_cell? w _ hxk)).trans hxk
                  have HTS : Hid (r.take (k + 1) = r.take k ++ [r.getD k 0]) := Lib.hid (by rw [List.take_succ_eq_append_getElem hlk, get_getD r k hlk])
                  have hbd := HII.out.2.1 k hlk
                  have HNA := Lib.hid (asc_not HII.out.2.2 hlk)
                  have HBAD2 : Hid (r.getD k 0 ∈ F → partP p rows = false) := Lib.hid (fun hm => HBAD.out (fun h => (HC2.out h).2 _ (by rw [← get_getD r k hlk]; exact List.getElem_mem _) hm))
                  rw [get_getD r k hlk] at hxk
                  obtain ⟨y, hy⟩ : ∃ y : Nat, r.getD k 0 = (y : Int) := ⟨(r.getD k 0).toNat, by omega⟩
                  rw [hy] at hxk HTS hbd HNA HBAD2
                  clear hy
                  have hy40 : y < 40 := by omega
                  obtain ⟨hty, hfy⟩ := htk y hy40
                  have z2 : (0 : Int) ≤ (k : Int) := by omega
                  have z3 : (k : Int) < (r.length : Int) := by omega
                  have z6 : (0 : Int) ≤ (y : Int) := by omega
                  have z7 : (y : Int) < 40 := by omega
                  obtain ⟨s, hs⟩ : ∃ s, s = r.take k := ⟨_, rfl⟩
                  rw [← hs] at htk hty HTS HNA hnew
                  clear hs
                  by_cases hyF : (y : Int) ∈ F
                  · have HX := Lib.hid (HBAD2.out hyF)
                    rw [decide_eq_true (List.mem_append_left _ hyF)] at hty
                    clear hyF
                    go_wp2_with fail
                    go_ret
                    exact ⟨ret_b HX.out, hb⟩
                  · rw [decide_eq_false (by rw [List.mem_append]; exact fun h => h.elim hyF HNA.out)] at hty
                    have HNN : Hid (∀ x ∈ s ++ [(y : Int)], x ∉ F) := Lib.hid (fun x hx => by
                      rcases List.mem_append.1 hx with h | h
                      · exact hnew.out x h
                      · simp at h; subst h; exact hyF)
                    clear hyF
                    have htk2 := (htk.store y hy40).eq (T := F ++ r.take (k + 1)) (by rw [HTS.out, List.append_assoc])
                    have hb2 : Below w.heap.size w (wr.setCell ⟨w.heap.size, y, none⟩ (.bool true)) := hb.setCell (p := ⟨w.heap.size, y, none⟩) (Nat.le_refl _) _
                    have HN2 : Hid (∀ x ∈ r.take (k + 1), x ∉ F) := Lib.hid (by rw [HTS.out]; exact HNN.out)
                    go_wp2_with fail
                    go_round
                    case rel => exact ⟨k + 1, by omega, by go_num, htk2, HN2, hb2⟩
                    case measure => simp [intOf]; omega
                · obtain rfl : k = r.length := by omega
                  have htk2 : TakAt wr w.heap.size (flatTo p (i + 1)) := htk.eq (by rw [HFT.out, List.take_length])
                  have HCL : Hid (∀ j, j < i + 1 → Cls p rows j) := Lib.hid (fun j hj => by
                    rcases Nat.lt_or_ge j i with h | h
                    · exact hcl.out j h
                    · obtain rfl : j = i := by omega
                      have hn := hnew.out
                      rw [List.take_length] at hn
                      exact HCO.out trivial (by omega) hn)
                  go_wp2_with fail
                  go_round
                  case rel => exact ⟨i + 1, by omega, by go_num, by rw [HLT.out], HCL, htk2, hb⟩
                  case measure => simp [intOf]; omega
        · obtain rfl : i = p.length := by omega
          have HX : Hid (partP p rows = true) := Lib.hid (partP_iff.2 ⟨⟨by omega, by omega⟩, hcl.out⟩)
          go_wp2_with fail
          go_ret
          exact ⟨ret_b HX.out, hb⟩
end Go.Proofs.YtfndnaldgaaieaaGreatDoor
namespace Go.Proofs.YtfndnaldgaaieaaGreatDoor
open Go.RowKit

theorem part_i64 {p : List (List Int)} {rows : Int} (h : partP p rows = true) : I64ss p := by
  intro i hi x hx
  obtain ⟨hr, hc⟩ := partP_iff.mp h
  obtain ⟨t, ht, rfl⟩ := mem_getD'.mp hx
  have := (hc i hi).2.2.1 t ht
  omega
theorem r5_five {a0 a1 a2 a3 a4 : Int} (h0 : -9223372036854775808 ≤ a0 ∧ a0 ≤ 9223372036854775807) (h1 : -9223372036854775808 ≤ a1 ∧ a1 ≤ 9223372036854775807) (h2 : -9223372036854775808 ≤ a2 ∧ a2 ≤ 9223372036854775807) (h3 : -9223372036854775808 ≤ a3 ∧ a3 ≤ 9223372036854775807) (h4 : -9223372036854775808 ≤ a4 ∧ a4 ≤ 9223372036854775807) : R5 [a0, a1, a2, a3, a4] := by
  refine ⟨rfl, fun j hj => ?_⟩
  rcases (show j = 0 ∨ j = 1 ∨ j = 2 ∨ j = 3 ∨ j = 4 by omega) with rfl | rfl | rfl | rfl | rfl
  · exact WalkArith.wf_i64 h0
  · exact WalkArith.wf_i64 h1
  · exact WalkArith.wf_i64 h2
  · exact WalkArith.wf_i64 h3
  · exact WalkArith.wf_i64 h4
theorem add_lit (a0 a1 a2 a3 a4 : Int) (x : Int) (B b n : Nat) (g : List Int → List Int) (w : World) (h : Grp w B b n g) (hr : R5 [a0, a1, a2, a3, a4]) (hn : n < 1048576) (hl : (g [a0, a1, a2, a3, a4]).length < 1048576) (hB : B ≤ w.heap.size) :
    Calls Tryz.prog 32 #[.map (some b), .agg #[.int .i64 a0, .int .i64 a1, .int .i64 a2, .int .i64 a3, .int .i64 a4], .int .i64 x] w fun e w' => e = .returned (.tuple #[]) ∧ Grp w' B b (n + 1) (fun s => if s = [a0, a1, a2, a3, a4] then g s ++ [x] else g s) ∧ Below B w w' :=
  add_any [a0, a1, a2, a3, a4] x B b n g w h hr hn hl hB
theorem keyP_none {p q : List (List Int)} {i : Nat} (h : fcl p (i : Int) = none ∨ fcl q (i : Int) = none) : keyP p q i = none := by
  unfold keyP
  unfold fcl at h
  rw [if_neg]
  rintro ⟨h1, h2⟩
  rcases h with h | h
  · rw [if_neg (by omega)] at h; cases h
  · rw [if_neg (by omega)] at h; cases h
theorem keyP_both {p q : List (List Int)} {i : Nat} {a b : Int} (ha : fcl p (i : Int) = some a) (hb : fcl q (i : Int) = some b) : keyP p q i = some [a, b, 0, 0, 0] := by
  unfold fcl at *
  split at ha
  · cases ha
  · split at hb
    · cases hb
    · cases ha; cases hb
      unfold keyP
      rw [if_pos ⟨by omega, by omega⟩]
theorem prod_ret {p q : List (List Int)} {rows : Int} (hp : partP p rows = true) (hq : partP q rows = true) (hl : p.length ≤ 1048576) (hl' : q.length ≤ 1048576) {w w5 : World} {B : Nat} (hB : w.heap.size ≤ B) (hb : Below w.heap.size w w5) {e : Ending} {w' : World} (h : RetP B (grpOf (keyP p q) rows.toNat) w5 e w') : RetSS (proS p q rows) w e w' := by
  obtain ⟨v, L, rs, rfl, ho, h1, h2, h3, h4, h5, h6⟩ := h
  have e : L = proS p q rows := product_eq hp hq h1 h2 h3 h5 h4 (fun i r hi hk => by
    unfold keyP at hk
    split at hk
    · cases hk
      have := clsI_ge p (i : Int)
      have := clsI_ge q (i : Int)
      exact r5_five (by omega) (by omega) (by omega) (by omega) (by omega)
    · cases hk)
  subst e
  exact ⟨v, rfl, ho.base hB (Nat.le_refl _), hb.trans (h6.mono hB)⟩
set_option maxRecDepth 20000 in
set_option maxHeartbeats 3200000 in
theorem implProductOf_any (v v' : Value) (p q : List (List Int)) (rows : Int) (w : World) (hr : ReadSS w v p) (hr' : ReadSS w v' q) (hl : p.length ≤ 1048576) (ht : tot p ≤ 1048576) (hl' : q.length ≤ 1048576) (ht' : tot q ≤ 1048576) :
    Calls Tryz.prog 13 #[v, v', .int .i64 rows] w (RetSS (proS p q rows) w) := by
  have HP := Lib.hid (fun w' (hb : Below w.heap.size w w') => implIsPartition_any v p rows w' (hr.kept hb) hl ht)
  have HQ := Lib.hid (fun w' (hb : Below w.heap.size w w') => implIsPartition_any v' q rows w' (hr'.kept hb) hl' ht')
  have hb0 := Below.refl w.heap.size w
  by_cases hp : partP p rows = true
  · by_cases hq : partP q rows = true
    · have HF := Lib.hid (fun w' (hb : Below w.heap.size w w') => firstClasses_any v p w' (hr.kept hb) hl ht (part_i64 hp))
      have HG := Lib.hid (fun w' (hb : Below w.heap.size w w') => firstClasses_any v' q w' (hr'.kept hb) hl' ht' (part_i64 hq))
      have HR := Lib.hid (fun w5 B e w' (hB : w.heap.size ≤ B) (hb : Below w.heap.size w w5) (h : RetP B (grpOf (keyP p q) rows.toNat) w5 e w') => prod_ret hp hq hl hl' hB hb h)
      have hrows := partP_rows hp
      rw [hp] at HP
      rw [hq] at HQ
      obtain ⟨R, rfl⟩ : ∃ R : Nat, rows = (R : Int) := ⟨rows.toNat, by omega⟩
      have HBD := Lib.hid (fun x c (h : fcl p x = some c) => fcl_bd p x c h)
      have HBD2 := Lib.hid (fun x c (h : fcl q x = some c) => fcl_bd q x c h)
      obtain ⟨a, cap, rfl, -⟩ := hr
      obtain ⟨a', cap', rfl, -⟩ := hr'
      have hmm := @run_makeMap Tryz.prog
      clear hp hq
      go_enter Tryz.func13, Tryz.ntmps13
      go_wp2_with fail
      refine (HP.out _ hb0).mono ?_
      rintro e w1 ⟨rfl, hb1⟩
      go_wp2_with fail
      refine (HQ.out _ hb1).mono ?_
      rintro e w2 ⟨rfl, hb2⟩
      replace hb2 := hb1.trans (hb2.mono hb1.size)
      go_wp2_with fail
      refine (HF.out _ hb2).mono ?_
      rintro e w3 ⟨rfl, hm3, hb3⟩
      have hs23 := hb3.size
      replace hb3 := hb2.trans (hb3.mono hb2.size)
      go_wp2_with fail
      refine (HG.out _ hb3).mono ?_
      rintro e w4 ⟨rfl, hm4, hb4⟩
      have hs34 := hb4.size
      have hm34 := hm3.below hb4 hm3.lt
      replace hb4 := hb3.trans (hb4.mono hb3.size)
      have hg5 := (Grp.made w4).congr (grpOf_zero (keyP p q))
      have hbz := (Below.refl w4.heap.size w4).alloc (Nat.le_refl _) (.map #[] 0)
      have hm35 := hm34.below hbz hm34.lt
      have hm45 := hm4.below hbz hm4.lt
      have hb5 := hb4.trans (hbz.mono hb4.size)
      have hs4 := hb4.size
      have hl3 := hm3.lt
      have hl4 := hm4.lt
      clear hm3 hm4 hm34 hb4 hb3 hb2 hb1
      go_wp2_with fail
      go_loopw [10] (fun iv wr => ∃ i : Nat, i ≤ R ∧ iv = .int .i64 (i : Int) ∧ Grp wr w4.heap.size w4.heap.size i (grpOf (keyP p q) i) ∧ MapI wr w2.heap.size 1048576 (fcl p) ∧ MapI wr w3.heap.size 1048576 (fcl q) ∧ Below w.heap.size w wr) (fun iv _ => R - (intOf iv).toNat)
      case atStart => exact ⟨0, by omega, rfl, hg5, hm35, hm45, hb5⟩
      case round =>
        clear hg5 hm35 hm45 hb5 hbz
        obtain ⟨i, hi, rfl, hg, hm, hn, hb⟩ := hrel
        obtain ⟨w9, hw9⟩ : ∃ w', w' = wr := ⟨_, rfl⟩
        rw [← hw9] at hg hm hn hb ⊢
        clear hw9
        have hml := hm.lt
        have hnl := hn.lt
        have hgl := hg.lt
        by_cases hlt : i < R
        · have hiw : (Lit.int .i64 (i : Int)).wf = true := WalkArith.wf_i64 (by omega)
          have z0 : (i : Int) < (R : Int) := by omega
          cases hfp : fcl p (i : Int) with
          | none =>
            have hk := keyP_none (p := p) (q := q) (i := i) (.inl hfp)
            have HGN := Lib.hid (hg.congr (grpOf_none hk))
            cases hfq : fcl q (i : Int) with
            | none =>
              have HFP := Lib.hid hfp
              have HFQ := Lib.hid hfq
              clear hfp hfq hk hg
              go_wp2_with (first
                | (at_lookup; refine mapI_look_none _ rfl _ _ rfl w2.heap.size 1048576 (fcl p) rfl hm _ rfl hiw HFP.out ?_)
                | (at_lookup; refine mapI_look_none _ rfl _ _ rfl w3.heap.size 1048576 (fcl q) rfl hn _ rfl hiw HFQ.out ?_))
              go_round
              case rel => exact ⟨i + 1, by omega, by go_num, HGN.out.mono (by omega), hm, hn, hb⟩
              case measure => simp [intOf]; omega
            | some d =>
              have HFP := Lib.hid hfp
              have HFQ := Lib.hid hfq
              clear hfp hfq hk hg
              go_wp2_with (first
                | (at_lookup; refine mapI_look_none _ rfl _ _ rfl w2.heap.size 1048576 (fcl p) rfl hm _ rfl hiw HFP.out ?_)
                | (at_lookup; refine mapI_look_some _ rfl _ _ rfl w3.heap.size 1048576 (fcl q) rfl hn _ _ rfl hiw HFQ.out ?_))
              go_round
              case rel => exact ⟨i + 1, by omega, by go_num, HGN.out.mono (by omega), hm, hn, hb⟩
              case measure => simp [intOf]; omega
          | some c =>
            cases hfq : fcl q (i : Int) with
            | none =>
              have hk := keyP_none (p := p) (q := q) (i := i) (.inr hfq)
              have HGN := Lib.hid (hg.congr (grpOf_none hk))
              have HFP := Lib.hid hfp
              have HFQ := Lib.hid hfq
              clear hfp hfq hk hg
              go_wp2_with (first
                | (at_lookup; refine mapI_look_some _ rfl _ _ rfl w2.heap.size 1048576 (fcl p) rfl hm _ _ rfl hiw HFP.out ?_)
                | (at_lookup; refine mapI_look_none _ rfl _ _ rfl w3.heap.size 1048576 (fcl q) rfl hn _ rfl hiw HFQ.out ?_))
              go_round
              case rel => exact ⟨i + 1, by omega, by go_num, HGN.out.mono (by omega), hm, hn, hb⟩
              case measure => simp [intOf]; omega
            | some d =>
              have HK := Lib.hid (keyP_both hfp hfq)
              have h1 := HBD.out _ _ hfp
              have h2 := HBD2.out _ _ hfq
              have hlen := grpOf_len (keyP p q) i [c, d, 0, 0, 0]
              have HFP := Lib.hid hfp
              have HFQ := Lib.hid hfq
              have HA := Lib.hid (fun w' (hb : Below w9.heap.size w9 w') => add_lit c d 0 0 0 (i : Int) w4.heap.size w4.heap.size i (grpOf (keyP p q) i) w' (hg.kept hb) (r5_five (by omega) (by omega) (by omega) (by omega) (by omega)) (by omega) (by omega) (by have := hb.size; omega))
              have hb9 := Below.refl w9.heap.size w9
              clear hfp hfq hg hlen h1 h2
              go_wp2_with (first
                | (at_lookup; refine mapI_look_some _ rfl _ _ rfl w2.heap.size 1048576 (fcl p) rfl hm _ _ rfl hiw HFP.out ?_)
                | (at_lookup; refine mapI_look_some _ rfl _ _ rfl w3.heap.size 1048576 (fcl q) rfl hn _ _ rfl hiw HFQ.out ?_))
              refine (HA.out _ hb9).mono ?_
              rintro e w6 ⟨rfl, hg6, hb6⟩
              have hg7 := hg6.congr (grpOf_some HK.out)
              have hm6 := hm.below hb6 (by omega)
              have hn6 := hn.below hb6 (by omega)
              have hb7 := hb.trans (hb6.mono (by omega))
              clear hg6 hb6 hm hn hb hb9
              go_wp2_with fail
              go_round
              case rel => exact ⟨i + 1, by omega, by go_num, hg7, hm6, hn6, hb7⟩
              case measure => simp [intOf]; omega
        · obtain rfl : i = R := by omega
          have HE := Lib.hid (fun e w' (h : RetP w4.heap.size (grpOf (keyP p q) i) w9 e w') => HR.out w9 w4.heap.size e w' (by omega) hb (by rw [show ((i : Int)).toNat = i from rfl]; exact h))
          have HPT := Lib.hid (partition_any w4.heap.size w4.heap.size i (grpOf (keyP p q) i) w9 hg (by omega) (fun r => by have := grpOf_len (keyP p q) i r; omega) (by omega))
          clear hm hn hg HR
          go_wp2_with fail
          refine HPT.out.mono ?_
          rintro e w6 hret
          obtain ⟨v, L, rs, rfl, h⟩ := id hret
          have HF := Lib.hid (HE.out _ _ hret)
          clear h hret
          go_wp2_with fail
          go_ret
          exact HF.out
    · have hq : partP q rows = false := by cases h : partP q rows with
        | false => rfl
        | true => exact absurd h hq
      rw [hp] at HP
      rw [hq] at HQ
      have he : proS p q rows = [] := by unfold proS; rw [hq]; simp
      rw [he]
      obtain ⟨a, cap, rfl, -⟩ := hr
      obtain ⟨a', cap', rfl, -⟩ := hr'
      clear hp hq he
      go_enter Tryz.func13, Tryz.ntmps13
      go_wp2_with fail
      refine (HP.out _ hb0).mono ?_
      rintro e w1 ⟨rfl, hb1⟩
      go_wp2_with fail
      refine (HQ.out _ hb1).mono ?_
      rintro e w2 ⟨rfl, hb2⟩
      replace hb2 := hb1.trans (hb2.mono hb1.size)
      go_wp2_with fail
      go_ret
      exact ⟨_, rfl, OwnSS.nil _ _ _, hb2⟩
  · have hp : partP p rows = false := by cases h : partP p rows with
      | false => rfl
      | true => exact absurd h hp
    rw [hp] at HP
    have he : proS p q rows = [] := by unfold proS; rw [hp]; simp
    rw [he]
    obtain ⟨a, cap, rfl, -⟩ := hr
    obtain ⟨a', cap', rfl, -⟩ := hr'
    clear hp he HQ
    go_enter Tryz.func13, Tryz.ntmps13
    go_wp2_with fail
    refine (HP.out _ hb0).mono ?_
    rintro e w1 ⟨rfl, hb1⟩
    go_wp2_with fail
    go_ret
    exact ⟨_, rfl, OwnSS.nil _ _ _, hb1⟩
end Go.Proofs.YtfndnaldgaaieaaGreatDoor
