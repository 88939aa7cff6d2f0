/- Texts of this claim, merged: CvC, Wo. Conditions: as stated. -/
import Derived.Test.YtlecfkfcjhliiaaGreatWc33
import Derived.Test.YtlecfkfcjhliiaaGreatWc38
import Derived.Test.YtlecfkfcjhliiaaGreatDdRm
import Derived.Test.YtlecfkfcjhliiaaGreatWc30
import Derived.Test.YtlecfkfcjhliiaaGreatWc32
import Derived.Test.YtlecfkfcjhliiaaGreatWc23
import Derived.Deep.RegionLaw
import Derived.Deep.CutBlock
import Derived.Deep.QuietTactic
import Derived.Deep.RegionHeld3
namespace Go.Proofs.YtlecfkfcjhliiaaGreat
open Go.RowKit

theorem candL_len (C : Nat) (hC : C ≤ 5) : (candL C).length ≤ 160 := cand_len C C hC (Nat.le_refl _)
set_option maxHeartbeats 1600000 in
theorem leastMD_any (c1 c2 : Value) (p : Int × Int → Bool) (C : Nat) (hC : C ≤ 5) (w : World)
    (HP : ∀ x, x ∈ candL C → ∀ w', Below w.heap.size w w' → Calls Tryz.prog 31 #[.agg #[.int .i64 x.1, .int .i64 x.2], c1, c2] w' fun e w'' => e = .returned (.bool (p x)) ∧ Below w'.heap.size w' w'') :
    Calls Tryz.prog 30 #[.int .i64 (C : Int), .func (.func 31) #[] #[c1, c2]] w (RetD (uncL ((candL C).filter p)) w) := by
  have HC := Lib.hid (candOf_any C hC w)
  have hlen := candL_len C hC
  have hlf := List.length_filter_le p (candL C)
  have HF := Lib.hid (fun v w' (hb : Below w.heap.size w w') (hr : ReadD w' v (candL C)) => filtMD_any c1 c2 p v (candL C) w' hr (by omega) (fun x hx w'' hb' => HP x hx w'' (hb.trans (hb'.mono hb.size))))
  have HU := Lib.hid (fun v w' (hr : ReadD w' v ((candL C).filter p)) => uncovered_any v ((candL C).filter p) w' hr (by omega))
  clear HP hlen hlf
  go_enter Tryz.func30, Tryz.ntmps30
  go_wp2_with fail
  refine HC.out.mono ?_
  rintro e w1 ⟨v1, rfl, o1, b1⟩
  have HG := Lib.hid (HF.out v1 w1 b1 o1.read)
  clear o1
  go_wp2_with fail
  refine HG.out.mono ?_
  rintro e w2 ⟨v2, rfl, o2, b2⟩
  have hb2 := b1.trans (b2.mono b1.size)
  have HV := Lib.hid (HU.out v2 w2 o2.read)
  clear o2 b1 b2
  go_wp2_with fail
  refine HV.out.mono ?_
  rintro e w3 ⟨v3, rfl, o3, b3⟩
  have hb3 := hb2.trans (b3.mono hb2.size)
  have o4 := o3.base hb2.size
  clear o3 b3 hb2
  go_wp2_with fail
  go_ret
  exact ⟨_, rfl, o4, hb3⟩
set_option maxHeartbeats 1600000 in
theorem leastAD_any (c1 c2 c3 : Value) (p : Int × Int → Bool) (C : Nat) (hC : C ≤ 5) (w : World)
    (HP : ∀ x, x ∈ candL C → ∀ w', Below w.heap.size w w' → Calls Tryz.prog 47 #[.agg #[.int .i64 x.1, .int .i64 x.2], c1, c2, c3] w' fun e w'' => e = .returned (.bool (p x)) ∧ Below w'.heap.size w' w'') :
    Calls Tryz.prog 30 #[.int .i64 (C : Int), .func (.func 47) #[] #[c1, c2, c3]] w (RetD (uncL ((candL C).filter p)) w) := by
  have HC := Lib.hid (candOf_any C hC w)
  have hlen := candL_len C hC
  have hlf := List.length_filter_le p (candL C)
  have HF := Lib.hid (fun v w' (hb : Below w.heap.size w w') (hr : ReadD w' v (candL C)) => filtAD_any c1 c2 c3 p v (candL C) w' hr (by omega) (fun x hx w'' hb' => HP x hx w'' (hb.trans (hb'.mono hb.size))))
  have HU := Lib.hid (fun v w' (hr : ReadD w' v ((candL C).filter p)) => uncovered_any v ((candL C).filter p) w' hr (by omega))
  clear HP hlen hlf
  go_enter Tryz.func30, Tryz.ntmps30
  go_wp2_with fail
  refine HC.out.mono ?_
  rintro e w1 ⟨v1, rfl, o1, b1⟩
  have HG := Lib.hid (HF.out v1 w1 b1 o1.read)
  clear o1
  go_wp2_with fail
  refine HG.out.mono ?_
  rintro e w2 ⟨v2, rfl, o2, b2⟩
  have hb2 := b1.trans (b2.mono b1.size)
  have HV := Lib.hid (HU.out v2 w2 o2.read)
  clear o2 b1 b2
  go_wp2_with fail
  refine HV.out.mono ?_
  rintro e w3 ⟨v3, rfl, o3, b3⟩
  have hb3 := hb2.trans (b3.mono hb2.size)
  have o4 := o3.base hb2.size
  clear o3 b3 hb2
  go_wp2_with fail
  go_ret
  exact ⟨_, rfl, o4, hb3⟩
/-- A table in a block of its own, a number in the next one; a third behind it. -/
structure Env2 (w : World) (b : Nat) (c m : Int) (v : Value) (ll : List (List Int)) : Prop where
  t0 : w.cell? ⟨b, 0, none⟩ = some (.int .i64 c)
  t1 : w.cell? ⟨b, 1, none⟩ = some v
  m0 : w.cell? ⟨b + 1, 0, none⟩ = some (.int .i64 m)
  s : ReadSS w v ll
theorem Env2.kept {w w' : World} {b : Nat} {c m : Int} {v : Value} {ll : List (List Int)} (h : Env2 w b c m v ll) (hb : Below w.heap.size w w') : Env2 w' b c m v ll :=
  ⟨(hb.cell (World.block_lt_of_cell? _ _ h.t0)).trans h.t0, (hb.cell (World.block_lt_of_cell? _ _ h.t1)).trans h.t1, (hb.cell (World.block_lt_of_cell? _ _ h.m0)).trans h.m0, h.s.kept hb⟩
theorem Env2.mk' {w : World} {c m : Int} {v : Value} {ll : List (List Int)} (h : ReadSS w v ll) (T T' : TypeId) : Env2 ((w.alloc (.cells #[.int .i64 c, v] T)).alloc (.cells #[.int .i64 m] T')) w.heap.size c m v ll := by
  have hb1 := (Below.refl w.heap.size w).alloc (Nat.le_refl _) (.cells #[.int .i64 c, v] T)
  obtain ⟨c0, c1⟩ := zero2 w T (.int .i64 c) v
  have hb2 := (Below.refl (w.alloc (.cells #[.int .i64 c, v] T)).heap.size (w.alloc (.cells #[.int .i64 c, v] T))).alloc (Nat.le_refl _) (.cells #[.int .i64 m] T')
  have hm := one_at (w.alloc (.cells #[.int .i64 c, v] T)) T' (.int .i64 m)
  rw [World.size_alloc] at hm
  exact ⟨(hb2.cell (World.block_lt_of_cell? _ _ c0)).trans c0, (hb2.cell (World.block_lt_of_cell? _ _ c1)).trans c1, hm, (h.kept hb1).kept hb2⟩
set_option maxHeartbeats 1600000 in
theorem minFun7_any (c m : Int) (v : Value) (ll : List (List Int)) (_w1 : (Lit.int .i64 m).wf = true) (b : Nat) (d0 d1 : Int) (_w2 : (Lit.int .i64 d0).wf = true) (_w3 : (Lit.int .i64 d1).wf = true) (w : World) (he : Env2 w b c m v ll) (hl : ll.length ≤ 1048576) (ht : ∀ i, i < ll.length → (ll.getD i []).length ≤ 1048576) :
    Calls Tryz.prog 31 #[.agg #[.int .i64 d0, .int .i64 d1], .pointer (some ⟨b, 0, none⟩), .pointer (some ⟨b + 1, 0, none⟩)] w fun e w' => e = .returned (.bool (holdsD c ll m d0 d1)) ∧ Below w.heap.size w w' := by
  have hb1 := (Below.refl w.heap.size w).alloc (Nat.le_refl _) (.cells #[.int .i64 d0, .int .i64 d1] 37)
  have HB := Lib.hid hb1
  obtain ⟨c0, c1⟩ := zero2 w 37 (.int .i64 d0) (.int .i64 d1)
  have he' := he.kept hb1
  have HH := Lib.hid (implHoldsDep_any c m d0 d1 v ll _w1 _w2 _w3 (w.alloc (.cells #[.int .i64 d0, .int .i64 d1] 37)) he'.s hl ht)
  obtain ⟨t0, t1, m0, hs⟩ := he'
  obtain ⟨a, cap, rfl, -⟩ := hs
  clear hb1 he ht
  go_enter Tryz.func31, Tryz.ntmps31
  go_wp2_with fail
  refine HH.out.mono ?_
  rintro e w2 ⟨rfl, b2⟩
  have hb2 := HB.out.trans (b2.mono HB.out.size)
  go_wp2_with fail
  go_ret
  exact ⟨rfl, hb2⟩
set_option maxHeartbeats 1600000 in
theorem appFun7_any (c m rows : Int) (v : Value) (ll : List (List Int)) (_w1 : (Lit.int .i64 m).wf = true) (b : Nat) (d0 d1 : Int) (_w2 : (Lit.int .i64 d0).wf = true) (_w3 : (Lit.int .i64 d1).wf = true) (w : World) (he : Env2 w b c m v ll) (hr : w.cell? ⟨b + 2, 0, none⟩ = some (.int .i64 rows)) (hl : ll.length ≤ 1048576) (ht : ∀ i, i < ll.length → (ll.getD i []).length ≤ 1048576) :
    Calls Tryz.prog 47 #[.agg #[.int .i64 d0, .int .i64 d1], .pointer (some ⟨b, 0, none⟩), .pointer (some ⟨b + 1, 0, none⟩), .pointer (some ⟨b + 2, 0, none⟩)] w fun e w' => e = .returned (.bool (decide (remD c ll m d0 d1 ≤ rows))) ∧ Below w.heap.size w w' := by
  have hb1 := (Below.refl w.heap.size w).alloc (Nat.le_refl _) (.cells #[.int .i64 d0, .int .i64 d1] 37)
  have HB := Lib.hid hb1
  obtain ⟨c0, c1⟩ := zero2 w 37 (.int .i64 d0) (.int .i64 d1)
  have he' := he.kept hb1
  replace hr := (hb1.cell (World.block_lt_of_cell? _ _ hr)).trans hr
  have HH := Lib.hid (fun w' (hb : Below (w.alloc (.cells #[.int .i64 d0, .int .i64 d1] 37)).heap.size (w.alloc (.cells #[.int .i64 d0, .int .i64 d1] 37)) w') => implRowsToRemove_any c m d0 d1 v ll _w1 _w2 _w3 w' (he'.s.kept hb) hl ht)
  have HR := Lib.hid (fun w' (hb : Below (w.alloc (.cells #[.int .i64 d0, .int .i64 d1] 37)).heap.size (w.alloc (.cells #[.int .i64 d0, .int .i64 d1] 37)) w') => (hb.cell (World.block_lt_of_cell? _ _ hr)).trans hr)
  obtain ⟨t0, t1, m0, hs⟩ := he'
  obtain ⟨a, cap, rfl, -⟩ := hs
  obtain ⟨q, hq⟩ : ∃ q, q = remD c ll m d0 d1 := ⟨_, rfl⟩
  rw [← hq] at HH
  rw [← hq]
  clear hb1 he ht hq
  go_enter Tryz.func47, Tryz.ntmps47
  go_wp2_with fail
  go_region_law (go_simp; go_at_call 48; refine (HH.out _ (Below.refl _ _).drew).mono ?_; rintro e w2 ⟨rfl, b2⟩; have hr2 := HR.out w2 ((Below.refl _ _).drew.trans b2); have hb2 := HB.out.trans (((Below.refl _ _).drew.trans b2).mono HB.out.size))
  all_goals
    go_wp2_with fail
    go_ret
    exact ⟨rfl, hb2⟩
theorem cand_wf {C : Nat} (hC : C ≤ 5) {x : Int × Int} (h : x ∈ candL C) : (Lit.int .i64 x.1).wf = true ∧ (Lit.int .i64 x.2).wf = true := by
  obtain ⟨r, r1, S, r2, -, rfl⟩ := (mdOut_mem _ _ _ _).1 h
  obtain ⟨X, rfl, hX⟩ := parts_small _ S r2
  have k1 : ∀ X : Fin 32, (Lit.int .i64 ((X.val : Nat) : Int)).wf = true := by decide +kernel
  exact ⟨k1 ⟨X, hX⟩, k1 ⟨r, by omega⟩⟩
set_option maxHeartbeats 3200000 in
theorem implMinimalDeps_any (c m : Int) (v : Value) (ll : List (List Int)) (_w1 : (Lit.int .i64 m).wf = true) (w : World) (hr : ReadSS w v ll) (hl : ll.length ≤ 1048576) (ht : ∀ i, i < ll.length → (ll.getD i []).length ≤ 1048576) :
    Calls Tryz.prog 7 #[.agg #[.int .i64 c, v], .int .i64 m] w (RetD (mdL c ll m) w) := by
  have hb1 := (Below.refl w.heap.size w).alloc (Nat.le_refl _) (.cells #[.int .i64 c, v] 26)
  have hb2 := hb1.alloc hb1.size (.cells #[.int .i64 m] 3)
  have he := Env2.mk' (c := c) (m := m) hr 26 3
  have HM := Lib.hid (inMode_any c m v ll _ he.s hl ht)
  have HB := Lib.hid hb2
  have hs1 : (w.alloc (.cells #[.int .i64 c, v] 26)).heap.size = w.heap.size + 1 := by simp
  cases hf : fineT c ll m with
  | false =>
    have HE : Hid (mdL c ll m = []) := Lib.hid (by unfold mdL; rw [hf]; rfl)
    rw [hf] at HM
    obtain ⟨t0, t1, m0, hs⟩ := he
    obtain ⟨a, cap, rfl, -⟩ := hs
    clear hf hb1 hb2 ht
    go_enter Tryz.func7, Tryz.ntmps7
    go_wp2_with fail
    refine HM.out.mono ?_
    rintro e w1 ⟨rfl, b1⟩
    have hb3 := HB.out.trans (b1.mono HB.out.size)
    go_wp2_with fail
    go_ret
    exact ⟨_, rfl, by rw [HE.out]; exact OwnD.nil _ _, hb3⟩
  | true =>
    have hT := fineT_isT hf
    obtain ⟨hc1, hc5, h40⟩ := isT_bd hT
    obtain ⟨C, rfl⟩ : ∃ C : Nat, c = (C : Int) := ⟨c.toNat, by omega⟩
    have HE : Hid (mdL (C : Int) ll m = uncL ((candL C).filter (fun d => holdsD (C : Int) ll m d.1 d.2))) := Lib.hid (by
      unfold mdL
      rw [if_pos hf, unc_min hf (by omega) (by omega)]; rfl)
    have HL := Lib.hid (fun w' (h : Env2 w' w.heap.size (C : Int) m v ll) => leastMD_any (.pointer (some ⟨w.heap.size, 0, none⟩)) (.pointer (some ⟨w.heap.size + 1, 0, none⟩)) (fun d => holdsD (C : Int) ll m d.1 d.2) C (by omega) w'
      (fun x hx w'' hb => minFun7_any (C : Int) m v ll _w1 w.heap.size x.1 x.2 (cand_wf (by omega) hx).1 (cand_wf (by omega) hx).2 w'' (h.kept hb) hl ht))
    rw [hf] at HM
    have HEV := Lib.hid he
    obtain ⟨t0, t1, m0, hs⟩ := he
    obtain ⟨a, cap, rfl, -⟩ := hs
    clear hf hb1 hb2 ht hT
    go_enter Tryz.func7, Tryz.ntmps7
    go_wp2_with fail
    refine HM.out.mono ?_
    rintro e w1 ⟨rfl, b1⟩
    have hb3 := HB.out.trans (b1.mono HB.out.size)
    have he1 := HEV.out.kept b1
    have HG := Lib.hid (HL.out w1 he1)
    obtain ⟨t0, t1, m0, -⟩ := he1
    clear b1
    go_wp2_with fail
    refine HG.out.mono ?_
    rintro e w2 ⟨v2, rfl, o2, b2⟩
    have hb4 := hb3.trans (b2.mono hb3.size)
    have o3 := o2.base hb3.size
    clear o2 b2
    go_wp2_with fail
    go_ret
    exact ⟨_, rfl, by rw [HE.out]; exact o3, hb4⟩
set_option maxHeartbeats 3200000 in
theorem implApproximateDeps_any (c m rows : Int) (v : Value) (ll : List (List Int)) (_w1 : (Lit.int .i64 m).wf = true) (w : World) (hr : ReadSS w v ll) (hl : ll.length ≤ 1048576) (ht : ∀ i, i < ll.length → (ll.getD i []).length ≤ 1048576) :
    Calls Tryz.prog 17 #[.agg #[.int .i64 c, v], .int .i64 m, .int .i64 rows] w (RetD (apL c ll m rows) w) := by
  have hb1 := (Below.refl w.heap.size w).alloc (Nat.le_refl _) (.cells #[.int .i64 c, v] 26)
  have hb2 := hb1.alloc hb1.size (.cells #[.int .i64 m] 3)
  have hb2' := hb2.alloc hb2.size (.cells #[.int .i64 rows] 3)
  have he0 := Env2.mk' (c := c) (m := m) hr 26 3
  have he := he0.kept ((Below.refl _ _).alloc (Nat.le_refl _) (.cells #[.int .i64 rows] 3))
  have hr0 := one_at ((w.alloc (.cells #[.int .i64 c, v] 26)).alloc (.cells #[.int .i64 m] 3)) 3 (.int .i64 rows)
  rw [World.size_alloc, World.size_alloc] at hr0
  have HM := Lib.hid (inMode_any c m v ll _ he.s hl ht)
  have HB := Lib.hid hb2'
  have hs1 : (w.alloc (.cells #[.int .i64 c, v] 26)).heap.size = w.heap.size + 1 := by simp
  cases hf : fineT c ll m with
  | false =>
    have HE : Hid (apL c ll m rows = []) := Lib.hid (by unfold apL; rw [hf, if_neg (fun h => by cases h.1)])
    rw [hf] at HM
    obtain ⟨t0, t1, m0, hs⟩ := he
    obtain ⟨a, cap, rfl, -⟩ := hs
    clear hf hb1 hb2 hb2' ht he0
    go_enter Tryz.func17, Tryz.ntmps17
    go_wp2_with fail
    refine HM.out.mono ?_
    rintro e w1 ⟨rfl, b1⟩
    have hb3 := HB.out.trans (b1.mono HB.out.size)
    go_wp2_with fail
    go_ret
    exact ⟨_, rfl, by rw [HE.out]; exact OwnD.nil _ _, hb3⟩
  | true =>
    by_cases hneg : rows < 0
    · have HE : Hid (apL c ll m rows = []) := Lib.hid (by unfold apL; rw [if_neg (fun h => absurd h.2 (by omega))])
      rw [hf] at HM
      have HEV := Lib.hid he
      have HR0 := Lib.hid hr0
      obtain ⟨t0, t1, m0, hs⟩ := he
      obtain ⟨a, cap, rfl, -⟩ := hs
      clear hf hb1 hb2 hb2' ht he0
      go_enter Tryz.func17, Tryz.ntmps17
      go_wp2_with fail
      refine HM.out.mono ?_
      rintro e w1 ⟨rfl, b1⟩
      have hb3 := HB.out.trans (b1.mono HB.out.size)
      replace hr0 := (b1.cell (World.block_lt_of_cell? _ _ hr0)).trans hr0
      go_wp2_with fail
      go_ret
      exact ⟨_, rfl, by rw [HE.out]; exact OwnD.nil _ _, hb3⟩
    · have hT := fineT_isT hf
      obtain ⟨hc1, hc5, h40⟩ := isT_bd hT
      obtain ⟨C, rfl⟩ : ∃ C : Nat, c = (C : Int) := ⟨c.toNat, by omega⟩
      have HE : Hid (apL (C : Int) ll m rows = uncL ((candL C).filter (fun d => decide (remD (C : Int) ll m d.1 d.2 ≤ rows)))) := Lib.hid (by
        unfold apL
        rw [if_pos ⟨hf, by omega⟩, unc_app (by omega)]; rfl)
      have HL := Lib.hid (fun w' (h : Env2 w' w.heap.size (C : Int) m v ll) (h2 : w'.cell? ⟨w.heap.size + 2, 0, none⟩ = some (.int .i64 rows)) => leastAD_any (.pointer (some ⟨w.heap.size, 0, none⟩)) (.pointer (some ⟨w.heap.size + 1, 0, none⟩)) (.pointer (some ⟨w.heap.size + 2, 0, none⟩)) (fun d => decide (remD (C : Int) ll m d.1 d.2 ≤ rows)) C (by omega) w'
        (fun x hx w'' hb => appFun7_any (C : Int) m rows v ll _w1 w.heap.size x.1 x.2 (cand_wf (by omega) hx).1 (cand_wf (by omega) hx).2 w'' (h.kept hb) ((hb.cell (World.block_lt_of_cell? _ _ h2)).trans h2) hl ht))
      rw [hf] at HM
      have HEV := Lib.hid he
      obtain ⟨t0, t1, m0, hs⟩ := he
      obtain ⟨a, cap, rfl, -⟩ := hs
      clear hf hb1 hb2 hb2' ht hT he0
      go_enter Tryz.func17, Tryz.ntmps17
      go_wp2_with fail
      refine HM.out.mono ?_
      rintro e w1 ⟨rfl, b1⟩
      have hb3 := HB.out.trans (b1.mono HB.out.size)
      have he1 := HEV.out.kept b1
      replace hr0 := (b1.cell (World.block_lt_of_cell? _ _ hr0)).trans hr0
      have HG := Lib.hid (HL.out w1 he1 hr0)
      obtain ⟨t0, t1, m0, -⟩ := he1
      clear b1
      go_wp2_with fail
      refine HG.out.mono ?_
      rintro e w2 ⟨v2, rfl, o2, b2⟩
      have hb4 := hb3.trans (b2.mono hb3.size)
      have o3 := o2.base hb3.size
      clear o2 b2
      go_wp2_with fail
      go_ret
      exact ⟨_, rfl, by rw [HE.out]; exact o3, hb4⟩
end Go.Proofs.YtlecfkfcjhliiaaGreat
namespace Go.Proofs.YtlecfkfcjhliiaaGreat
open Go.RowKit

def BxW (w : World) (b : Nat) (x y : Int) : Prop := w.heap[b]? = some (.cells #[.int .i64 x, .int .i64 y] 37 (0, 0))
theorem BxW.c0 {w : World} {b : Nat} {x y : Int} (h : BxW w b x y) : w.cell? ⟨b, 0, none⟩ = some (.int .i64 x) := by rw [cell_of_row w b 0 _ _ _ h]; rfl
theorem BxW.c1 {w : World} {b : Nat} {x y : Int} (h : BxW w b x y) : w.cell? ⟨b, 1, none⟩ = some (.int .i64 y) := by rw [cell_of_row w b 1 _ _ _ h]; rfl
theorem BxW.f0 {w : World} {b : Nat} {x y : Int} (h : BxW w b x y) : w.frozen? ⟨b, 0, none⟩ = false := frozen_of_row w b 0 _ _ h
theorem BxW.f1 {w : World} {b : Nat} {x y : Int} (h : BxW w b x y) : w.frozen? ⟨b, 1, none⟩ = false := frozen_of_row w b 1 _ _ h
theorem BxW.keep {w w' : World} {b : Nat} {x y : Int} (h : BxW w b x y) (hb : Below w.heap.size w w') : BxW w' b x y := (hb.block b (World.block_lt_of_cell? w _ h.c0)).trans h
theorem bxw_new (w : World) (x y : Int) : BxW (w.alloc (.cells #[.int .i64 x, .int .i64 y] 37)) w.heap.size x y := heap_alloc_new w _
theorem BxW.set0 {w : World} {b : Nat} {x y z : Int} (h : BxW w b x y) : BxW (w.setCell ⟨b, 0, none⟩ (.int .i64 z)) b z y := by
  unfold BxW at *
  simp only [World.setCell, Array.getElem?_modify]
  rw [if_pos trivial, h]
  rfl
theorem BxW.set1 {w : World} {b : Nat} {x y z : Int} (h : BxW w b x y) : BxW (w.setCell ⟨b, 1, none⟩ (.int .i64 z)) b x z := by
  unfold BxW at *
  simp only [World.setCell, Array.getElem?_modify]
  rw [if_pos trivial, h]
  rfl
section
set_option maxRecDepth 20000
set_option maxHeartbeats 1600000
theorem without_any (l r : Int) (y : Nat) (hy : y ≤ 62) (w : World) :
    Calls Tryz.prog 41 #[.agg #[.int .i64 l, .int .i64 r], .int .i64 (y : Int)] w fun e w' => e = .returned (.agg #[.int .i64 (bits .andNot .i64 l (IntKind.i64.wrap (2 ^ y))), .int .i64 r]) ∧ Below w.heap.size w w' := by
  have hb1 := (Below.refl w.heap.size w).alloc (Nat.le_refl _) (.cells #[.int .i64 l, .int .i64 r] 37)
  have hb2 := hb1.alloc hb1.size (.cells #[.int .i64 0, .int .i64 0] 37)
  have hba := (Below.refl (w.alloc (.cells #[.int .i64 l, .int .i64 r] 37)).heap.size _).alloc (Nat.le_refl _) (.cells #[.int .i64 0, .int .i64 0] 37)
  have hx0 := (bxw_new w l r).keep hba
  have hx1 := bxw_new (w.alloc (.cells #[.int .i64 l, .int .i64 r] 37)) 0 0
  rw [World.size_alloc] at hx1
  have HB2 := Lib.hid hb2
  have hy64 : y ≤ 64 := by omega
  clear hb1 hba hb2
  go_enter Tryz.func41, Tryz.ntmps41
  go_upto_region 1 with fail
  obtain ⟨W, hW⟩ : ∃ W, W = ((w.alloc (.cells #[.int .i64 l, .int .i64 r] 37)).alloc (.cells #[.int .i64 0, .int .i64 0] 37)) := ⟨_, rfl⟩
  rw [← hW] at hx0 hx1 HB2 ⊢
  clear hW
  have c0 := hx0.c0
  have c1 := hx0.c1
  have d0 := hx1.c0
  have d1 := hx1.c1
  have e0 := hx1.f0
  have e1 := hx1.f1
  have hz : BxW ((W.setCell ⟨w.heap.size + 1, 0, none⟩ (.int .i64 (bits .andNot .i64 l (wrap64 (2 ^ y))))).setCell ⟨w.heap.size + 1, 1, none⟩ (.int .i64 r)).drew (w.heap.size + 1) (bits .andNot .i64 l (wrap64 (2 ^ y))) r := (hx1.set0).set1
  have HR := Lib.hid (And.intro hz.c0 hz.c1)
  have HB3 : Hid (Below w.heap.size w ((W.setCell ⟨w.heap.size + 1, 0, none⟩ (.int .i64 (bits .andNot .i64 l (wrap64 (2 ^ y))))).setCell ⟨w.heap.size + 1, 1, none⟩ (.int .i64 r)).drew) := Lib.hid (((HB2.out.setCell (p := ⟨w.heap.size + 1, 0, none⟩) (by simp) _).setCell (p := ⟨w.heap.size + 1, 1, none⟩) (by simp) _).trans ((Below.refl _ _).drew))
  clear hz
  go_region
  all_goals (go_wp2_with fail)
  all_goals exact bodyPost_ret (v := .agg #[.int .i64 (bits .andNot .i64 l (wrap64 (2 ^ y))), .int .i64 r]) (by simp [results, Tryz.results41, go_sem, HR.out.1, HR.out.2]) rfl ⟨by rw [IntWalk.i64_left], HB3.out⟩
end
end Go.Proofs.YtlecfkfcjhliiaaGreat
