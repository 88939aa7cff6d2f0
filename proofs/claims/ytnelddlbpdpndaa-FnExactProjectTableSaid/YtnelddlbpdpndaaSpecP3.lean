/- The model's ProjectTable, by contract. Conditions: as stated. -/
import Derived.Test.YtnelddlbpdpndaaSpecP2
import Derived.Deep.AppendLies
namespace Go.Proofs.Ytnelddlbpdpndaa
open Go.RowKit

/-- The part of a row in the columns of a set. -/
def rowOf (q : Int) (r : List Int) : List Int := (mems q).map fun k => r.getD k.toNat 0
theorem rowOf_len (q : Int) (r : List Int) : (rowOf q r).length = (mems q).length := by simp [rowOf]
/-- The projection is asked of a table and a set of its columns that is not empty. -/
def projOk (c : Int) (ll : List (List Int)) (q : Int) : Bool := isT c ll && (isA c q && !(q == 0))
def projC (c : Int) (ll : List (List Int)) (q : Int) : Int := if projOk c ll q = true then ((mems q).length : Int) else 0
def projR (c : Int) (ll : List (List Int)) (q : Int) : List (List Int) := if projOk c ll q = true then onceL (ll.map (rowOf q)) else []
theorem mems_first : ∀ N : Fin 6, ∀ X : Fin 32, X.val < 2 ^ N.val → ∀ i ∈ mems ((X.val : Nat) : Int), 0 ≤ i ∧ i < ((N.val : Nat) : Int) := by decide +kernel
theorem mems_some : ∀ X : Fin 32, X.val ≠ 0 → 0 < (mems ((X.val : Nat) : Int)).length := by decide +kernel
theorem isA_mems {c q : Int} (h : isA c q = true) : ∀ i ∈ mems q, 0 ≤ i ∧ i < c := by
  unfold isA at h
  rw [decide_eq_true_iff] at h
  obtain ⟨⟨h0, h1⟩, h2, h3⟩ := h
  obtain ⟨N, rfl⟩ : ∃ N : Nat, c = (N : Int) := ⟨c.toNat, by omega⟩
  obtain ⟨X, rfl⟩ : ∃ X : Nat, q = (X : Int) := ⟨q.toNat, by omega⟩
  have e : ((2 : Int) ^ (N : Int).toNat) = ((2 ^ N : Nat) : Int) := by rw [Int.natCast_pow]; rfl
  rw [e] at h3
  have p1 : 2 ^ N ≤ 2 ^ 5 := Nat.pow_le_pow_right (by omega) (by omega)
  exact mems_first ⟨N, by omega⟩ ⟨X, by omega⟩ (by simp only; omega)
theorem isA_range {c q : Int} (h : isA c q = true) : 0 ≤ q ∧ q ≤ 31 := by
  unfold isA at h
  rw [decide_eq_true_iff] at h
  obtain ⟨⟨h0, h1⟩, h2, h3⟩ := h
  obtain ⟨N, rfl⟩ : ∃ N : Nat, c = (N : Int) := ⟨c.toNat, by omega⟩
  have e : ((2 : Int) ^ (N : Int).toNat) = ((2 ^ N : Nat) : Int) := by rw [Int.natCast_pow]; rfl
  rw [e] at h3
  have p1 : 2 ^ N ≤ 2 ^ 5 := Nat.pow_le_pow_right (by omega) (by omega)
  omega
theorem isA_pos {c q : Int} (h : isA c q = true) (h0 : q ≠ 0) : 0 < (mems q).length := by
  obtain ⟨a, b⟩ := isA_range h
  obtain ⟨X, rfl⟩ : ∃ X : Nat, q = (X : Int) := ⟨q.toNat, by omega⟩
  exact mems_some ⟨X, by omega⟩ (by simp only; omega)
theorem proj_tot {c : Int} {ll : List (List Int)} {q : Int} : (projR c ll q).length ≤ ll.length ∧ ∀ r ∈ projR c ll q, r.length ≤ 5 := by
  unfold projR
  split
  · refine ⟨by have := onceL_len (ll.map (rowOf q)); simpa using this, fun r hr => ?_⟩
    rw [onceL_mem, List.mem_map] at hr
    obtain ⟨a, -, rfl⟩ := hr
    rw [rowOf_len]; exact mems_len q
  · simp
/-- The four cells that a round loads. -/
theorem mk4 {wi w7 : World} {p1 p2 p3 p4 : Addr} {u1 u2 u3 u4 : Value} (hb : Below wi.heap.size wi w7) (h1 : wi.cell? p1 = some u1) (h2 : wi.cell? p2 = some u2) (h3 : wi.cell? p3 = some u3) (h4 : wi.cell? p4 = some u4) :
    w7.cell? p1 = some u1 ∧ w7.cell? p2 = some u2 ∧ w7.cell? p3 = some u3 ∧ w7.cell? p4 = some u4 ∧ Below wi.heap.size wi w7 :=
  have k : ∀ {a : Addr} {u : Value}, wi.cell? a = some u → w7.cell? a = some u := fun e => (hb.cell (World.block_lt_of_cell? wi _ e)).trans e
  ⟨k h1, k h2, k h3, k h4, hb⟩
set_option maxRecDepth 20000 in
set_option maxHeartbeats 3200000 in
theorem projectTable_any (c q : Int) (v : Value) (ll : List (List Int)) (w : World) (hr : ReadSS w v ll) (hl : ll.length ≤ 1048576) (ht : ∀ i, i < ll.length → (ll.getD i []).length ≤ 1048576) :
    Calls Try.prog 18 #[.agg #[.int .i64 c, v], .int .i64 q] w (RetT (projC c ll q) (projR c ll q) w) := by
  obtain ⟨i0, hi, hz0, hz1, hz2⟩ := info_parts infoSj
  have HI : Hid (_ ∧ _ ∧ _ ∧ _) := Lib.hid ⟨hi, hz0, hz1, hz2⟩
  clear hi hz0 hz1 hz2
  obtain ⟨j0, hi, hz0, hz1, hz2⟩ := info_parts info3j
  have HJ : Hid (_ ∧ _ ∧ _ ∧ _) := Lib.hid ⟨hi, hz0, hz1, hz2⟩
  clear hi hz0 hz1 hz2
  have HV := Lib.hid (fun w' (hb : Below w.heap.size w w') => isTable_any c v ll w' (hr.kept hb) hl ht)
  have HA := Lib.hid (fun w' => isA_any c q w')
  obtain ⟨a, cap, rfl, ha⟩ := hr
  have HC := Lib.hid ha
  clear ha ht
  have hbx := ((Below.refl w.heap.size w).alloc (Nat.le_refl _) (.cells #[.int .i64 c, .slice a ll.length cap] 27)).alloc (by simp) (.cells #[.int .i64 0, .slice none 0 0] 27)
  cases hv : isT c ll with
  | false =>
    have HE : Hid (projC c ll q = 0 ∧ projR c ll q = []) := Lib.hid (by unfold projC projR projOk; rw [hv]; exact ⟨rfl, rfl⟩)
    rw [hv] at HV
    clear hv
    go_enter Try.func18, Try.ntmps18
    go_wp2_with fail
    refine (HV.out _ hbx).mono ?_
    rintro e w1 ⟨rfl, hb1⟩
    obtain ⟨hc, hf⟩ := bcell hb1
    go_wp2_with fail
    refine bodyPost_ret (v := .agg #[.int .i64 0, .slice none 0 0]) (by simp [results, Try.results18, go_sem, hc]) rfl ⟨.slice none 0 0, by rw [HE.out.1], by rw [HE.out.2]; exact OwnSS.nil _ _ _, ?_⟩
    exact ((hbx.trans (hb1.mono hbx.size)).setCell (by simp) _).setCell (by simp) _
  | true =>
    obtain ⟨c1, c5, h40⟩ := isT_bd hv
    have HROW := Lib.hid (fun k hk => (isT_row hv (k := k) hk).1)
    rw [hv] at HV
    cases hq : isA c q with
    | false =>
      have HE : Hid (projC c ll q = 0 ∧ projR c ll q = []) := Lib.hid (by unfold projC projR projOk; rw [hv, hq]; exact ⟨rfl, rfl⟩)
      rw [hq] at HA
      clear hv hq
      go_enter Try.func18, Try.ntmps18
      go_wp2_with fail
      refine (HV.out _ hbx).mono ?_
      rintro e w1 ⟨rfl, hb1⟩
      obtain ⟨hc, hf⟩ := bcell hb1
      go_wp2_with fail
      refine (HA.out _).mono ?_
      rintro e w' ⟨rfl, rfl⟩
      go_wp2_with fail
      refine bodyPost_ret (v := .agg #[.int .i64 0, .slice none 0 0]) (by simp [results, Try.results18, go_sem, hc]) rfl ⟨.slice none 0 0, by rw [HE.out.1], by rw [HE.out.2]; exact OwnSS.nil _ _ _, ?_⟩
      exact ((hbx.trans (hb1.mono hbx.size)).setCell (by simp) _).setCell (by simp) _
    | true =>
      rw [hq] at HA
      by_cases h0 : q = 0
      · have HE : Hid (projC c ll q = 0 ∧ projR c ll q = []) := Lib.hid (by unfold projC projR projOk; rw [hv, hq, h0]; exact ⟨rfl, rfl⟩)
        have hz : (q == 0) = true := by simp [h0]
        clear hv hq h0
        go_enter Try.func18, Try.ntmps18
        go_wp2_with fail
        refine (HV.out _ hbx).mono ?_
        rintro e w1 ⟨rfl, hb1⟩
        obtain ⟨hc, hf⟩ := bcell hb1
        go_wp2_with fail
        refine (HA.out _).mono ?_
        rintro e w' ⟨rfl, rfl⟩
        go_wp2_with fail
        refine bodyPost_ret (v := .agg #[.int .i64 0, .slice none 0 0]) (by simp [results, Try.results18, go_sem, hc]) rfl ⟨.slice none 0 0, by rw [HE.out.1], by rw [HE.out.2]; exact OwnSS.nil _ _ _, ?_⟩
        exact ((hbx.trans (hb1.mono hbx.size)).setCell (by simp) _).setCell (by simp) _
      · have hz : (q == 0) = false := by rw [beq_eq_false_iff_ne]; exact h0
        have HE : Hid (projC c ll q = ((mems q).length : Int) ∧ projR c ll q = onceL (ll.map (rowOf q))) := Lib.hid (by unfold projC projR projOk; rw [hv, hq, hz]; exact ⟨rfl, rfl⟩)
        have HM := Lib.hid (isA_mems hq)
        have hpos := isA_pos hq h0
        have hml := mems_len q
        have HMS := Lib.hid (fun w' => membersS_any q w')
        have HRO : Hid (∀ r, rowOf q r = (mems q).map fun k => r.getD k.toNat 0) := Lib.hid (fun r => rfl)
        have HON := Lib.hid (fun v w' (hr : ReadC w' v (ll.map (rowOf q))) => l3Once_any ll.length (ll.map (rowOf q)) v w' (by simp) (by simp; omega) (fun i hi => by
          rw [List.length_map] at hi
          rw [show (ll.map (rowOf q)).getD i [] = rowOf q (ll.getD i []) by simp [List.getD_eq_getElem?_getD, List.getElem?_eq_getElem hi], rowOf_len]; omega) hr)
        obtain ⟨ms, hms⟩ : ∃ ms, ms = mems q := ⟨_, rfl⟩
        rw [← hms] at HE HM hpos hml HMS HRO
        clear hv hq h0 hms
        go_enter Try.func18, Try.ntmps18
        go_wp2_with fail
        refine (HV.out _ hbx).mono ?_
        rintro e w1 ⟨rfl, hb1⟩
        obtain ⟨hc, hf⟩ := bcell hb1
        go_wp2_with fail
        refine (HA.out _).mono ?_
        rintro e w' ⟨rfl, rfl⟩
        go_wp2_with fail
        refine (HMS.out _).mono ?_
        rintro e w2 ⟨vm, rfl, om, hb2⟩
        have HB2 := Lib.hid (hb1.trans (hb2.mono hb1.size))
        clear hc hf hb1
        go_wp2_with fail
        obtain ⟨am, capm, rfl, hmc⟩ := om.read
        obtain ⟨xm, rfl⟩ : ∃ xm, am = some xm := by
          obtain ⟨x, hx, -⟩ := hmc 0 hpos
          exact ⟨x, hx⟩
        have HMC : Hid (∀ k (h : k < ms.length), w2.cell? (xm.add k) = some (.int .i64 ms[k])) := Lib.hid (fun k h => by
          obtain ⟨x, hx, hcell⟩ := hmc k h
          simp at hx
          subst hx
          exact hcell)
        have hz2 := hbx.trans (HB2.out.mono hbx.size)
        have hx1 : w2.cell? ⟨w.heap.size, 1, none⟩ = some (.slice a ll.length cap) := (HB2.out.cell (p := ⟨w.heap.size, 1, none⟩) (by simp; omega)).trans ((World.cell?_alloc_old _ _ _ (by simp)).trans (zero2 w _ _ _).2)
        have hx2 : w2.cell? ⟨w.heap.size + 1, 0, none⟩ = some (.int .i64 0) ∧ w2.cell? ⟨w.heap.size + 1, 1, none⟩ = some (.slice none 0 0) := by
          have h := zero2 (w.alloc (.cells #[.int .i64 c, .slice a ll.length cap] 27)) 27 (.int .i64 0) (.slice none 0 0)
          simp only [World.size_alloc] at h
          exact ⟨(HB2.out.cell (p := ⟨w.heap.size + 1, 0, none⟩) (by simp)).trans h.1, (HB2.out.cell (p := ⟨w.heap.size + 1, 1, none⟩) (by simp)).trans h.2⟩
        have HX2 := Lib.hid hx2
        have HF2 : Hid (w2.frozen? ⟨w.heap.size + 1, 0, none⟩ = false ∧ w2.frozen? ⟨w.heap.size + 1, 1, none⟩ = false) := Lib.hid ⟨(HB2.out.frozen (p := ⟨w.heap.size + 1, 0, none⟩) (by simp)).trans (by go_simp), (HB2.out.frozen (p := ⟨w.heap.size + 1, 1, none⟩) (by simp)).trans (by go_simp)⟩
        have ho0 : OwnSS (w2.alloc (.cells #[] 31)) w2.heap.size (w2.heap.size + 1) (.slice (some ⟨w2.heap.size, 0, none⟩) 0 0) [] :=
          ⟨fun _ => undef, World.ownsRow_made w2 #[] 0 (Nat.le_refl _) (by unfold maxLen; omega) rfl, (fun g hg => by simp [Value.ownBlock] at hg; omega), (fun i h => absurd h (Nat.not_lt_zero _)), (fun i j _ h => absurd h (Nat.not_lt_zero _))⟩
        clear hx2 om hmc
        go_loopw [6, 7] (fun ov iv wr => ∃ (i : Nat) (L : List (List Int)), i ≤ ll.length ∧ iv = .int .i64 (i : Int) ∧ Hid (L = (ll.take i).map (rowOf q)) ∧ Hid (OwnSS wr w2.heap.size wr.heap.size ov L) ∧ Below w2.heap.size w2 wr) (fun _ iv _ => ll.length - (intOf iv).toNat)
        case atStart => exact ⟨0, [], by omega, rfl, Lib.hid rfl, Lib.hid (by simpa using ho0), (Below.refl _ _).alloc (Nat.le_refl _) _⟩
        case round =>
          clear ho0
          obtain ⟨i, L, hi, rfl, hL, HO, hb⟩ := hrel
          have hLl : L.length = i := by rw [hL.out, List.length_map, List.length_take]; omega
          obtain ⟨wi, rfl⟩ : ∃ wi : World, wi = wr := ⟨_, rfl⟩
          have e1 := (hb.cell (World.block_lt_of_cell? w2 _ hx1)).trans hx1
          by_cases hlt : i < ll.length
          · obtain ⟨x, u, rfl, hxw, hu⟩ := HC.out i hlt
            have hw := hz2.trans (hb.mono hz2.size)
            have e2 := (hw.cell (World.block_lt_of_cell? w _ hxw)).trans hxw
            have hrd := hu.kept hw
            have hcl := HROW.out i hlt
            have HLS := Lib.hid (map_take_succ ll (rowOf q) [] i hlt)
            obtain ⟨row, hrr⟩ : ∃ row, ll.getD i [] = row := ⟨_, rfl⟩
            rw [hrr] at hrd hcl HLS
            obtain ⟨ar, rc, rfl, hrow⟩ := hrd
            have HRW := Lib.hid hrow
            obtain ⟨xr, rfl⟩ : ∃ xr, ar = some xr := by
              obtain ⟨x0, h0, -⟩ := hrow 0 (by omega)
              exact ⟨x0, h0⟩
            have HCL := Lib.hid hcl
            obtain ⟨R, hR⟩ : ∃ R : Nat, row.length = R := ⟨_, rfl⟩
            rw [hR] at e2
            clear hcl
            have HRR := Lib.hid hR
            clear hxw hu hrow hrr hR
            have hLl2 : L.length ≤ 40 := by omega
            clear hLl
            go_wp2_with fail
            have hor0 : OwnI (wi.alloc (.cells #[] 3)) wi.heap.size (.slice (some ⟨wi.heap.size, 0, none⟩) 0 0) [] := OwnI.made (World.ownsRow_made wi #[] 0 (Nat.le_refl _) (by unfold maxLen; omega) rfl)
            go_loopw [8, 9] (fun rv kv wr => ∃ (k : Nat) (l : List Int), k ≤ ms.length ∧ kv = .int .i64 (k : Int) ∧ Hid (l = (ms.take k).map (fun t => row.getD t.toNat 0)) ∧ OwnI wr wi.heap.size rv l ∧ Below wi.heap.size wi wr) (fun _ kv _ => ms.length - (intOf kv).toNat)
            case atStart => exact ⟨0, [], by omega, rfl, Lib.hid rfl, hor0, (Below.refl _ _).alloc (Nat.le_refl _) _⟩
            case round =>
              clear hor0
              obtain ⟨k, l, hk, rfl, hl2, hor, hbI⟩ := hrel
              have hll : l.length ≤ 5 := by rw [hl2.out, List.length_map]; have := List.length_take_le k ms; omega
              by_cases hkt : k < ms.length
              · have e3 := (hb.cell (World.block_lt_of_cell? w2 _ (HMC.out k hkt))).trans (HMC.out k hkt)
                obtain ⟨m0, m1⟩ := HM.out ms[k] (List.getElem_mem hkt)
                have HST : Hid ((ms.take (k + 1)).map (fun t => row.getD t.toNat 0) = (ms.take k).map (fun t => row.getD t.toNat 0) ++ [row.getD (ms[k]).toNat 0]) := Lib.hid (by rw [List.take_succ_eq_append_getElem hkt, List.map_append]; rfl)
                obtain ⟨z, hz⟩ : ∃ z : Nat, ms[k] = (z : Int) := ⟨(ms[k]).toNat, by omega⟩
                rw [hz] at e3 m1 HST
                rw [show (z : Int).toNat = z from rfl] at HST
                have hzR : z < row.length := by have := HCL.out; omega
                obtain ⟨x0, hx0, e4⟩ := HRW.out z hzR
                simp at hx0
                subst hx0
                rw [get_getD row z hzR] at e4
                obtain ⟨y, hy⟩ : ∃ y, row.getD z 0 = y := ⟨_, rfl⟩
                rw [hy] at e4 HST
                rw [HRR.out] at hzR
                have f1 := (hbI.cell (World.block_lt_of_cell? wi _ e1)).trans e1
                have BA := Lib.hid ((hbI.drew).alloc (by simpa using hbI.size) (.cells #[.int .i64 y] 3))
                have z0 : (0 : Int) ≤ (i : Int) := by omega
                have z1 : (i : Int) < (ll.length : Int) := by omega
                have z2 : (0 : Int) ≤ (k : Int) := by omega
                have z3 : (k : Int) < (ms.length : Int) := by omega
                have z4 : (0 : Int) ≤ (z : Int) := by omega
                have z5 : (z : Int) < (R : Int) := by omega
                clear hz hy m0 m1
                go_wp2_with fail
                refine wp_region_noPanic ?_
                refine wp_region_held_drew (S := (fun w' => w'.cell? ⟨w.heap.size, 1, none⟩ = some (.slice (some x) ll.length cap) ∧ w'.cell? (x.add i) = some (.slice (some xr) R rc) ∧ w'.cell? (xm.add k) = some (.int .i64 (z : Int)) ∧ w'.cell? (xr.add z) = some (.int .i64 y) ∧ Below wi.heap.size wi w')) (by kernel_rfl) ?_ (fun hHeld => ?_)
                · ((try dsimp only); (first | exact mk4 (BA.out.grown hgrow (by simp; have := hbI.size; omega) (fun g hg => (hor.lt g hg).1)) e1 e2 e3 e4 | exact mk4 BA.out e1 e2 e3 e4 | exact mk4 hbI.drew e1 e2 e3 e4))
                refine wpAnyH_take (i := 0) (v := ?_) rfl (by kernel_rfl) (by kernel_rfl) (by kernel_rfl) (fun _ _ _ h => h) (Or.inl ⟨by rfl, ?_⟩) (by assumption) ?_
                rotate_left
                · (intro w hSw; (try dsimp only at hSw); go_simp; (try with_reducible rfl))
                (try simp only [Act.put, List.getElem_toArray, List.getElem_cons_zero, List.setIfInBounds_toArray, List.set_cons_zero, List.set_cons_succ])
                refine wpAnyH_take (i := 1) (v := ?_) rfl (by kernel_rfl) (by kernel_rfl) (by kernel_rfl) (fun _ _ _ h => h) (Or.inl ⟨by rfl, ?_⟩) (by assumption) ?_
                rotate_left
                · (intro w hSw; (try dsimp only at hSw); go_simp; (try with_reducible rfl))
                (try simp only [Act.put, List.getElem_toArray, List.getElem_cons_succ, List.getElem_cons_zero, List.setIfInBounds_toArray, List.set_cons_zero, List.set_cons_succ])
                refine wpAnyH_take (i := 2) (v := ?_) rfl (by kernel_rfl) (by kernel_rfl) (by kernel_rfl) (fun _ _ _ h => h) (Or.inl ⟨by rfl, ?_⟩) (by assumption) ?_
                rotate_left
                · (intro w hSw; (try dsimp only at hSw); go_simp; (try with_reducible rfl))
                (try simp only [Act.put, List.getElem_toArray, List.getElem_cons_succ, List.getElem_cons_zero, List.setIfInBounds_toArray, List.set_cons_zero, List.set_cons_succ])
                refine wpAnyH_take (i := 3) (v := ?_) rfl (by kernel_rfl) (by kernel_rfl) (by kernel_rfl) (fun _ _ _ h => h) (Or.inl ⟨by rfl, ?_⟩) (by assumption) ?_
                rotate_left
                · (intro w hSw; (try dsimp only at hSw); go_simp; (try with_reducible rfl))
                (try simp only [Act.put, List.getElem_toArray, List.getElem_cons_succ, List.getElem_cons_zero, List.setIfInBounds_toArray, List.set_cons_zero, List.set_cons_succ])
                refine wpAnyH_take (i := 4) (v := ?_) rfl (by kernel_rfl) (by kernel_rfl) (by kernel_rfl) (fun _ _ _ h => h) (Or.inl ⟨by rfl, ?_⟩) (by assumption) ?_
                rotate_left
                · (intro w hSw; (try dsimp only at hSw); go_simp; (try with_reducible rfl))
                (try simp only [Act.put, List.getElem_toArray, List.getElem_cons_succ, List.getElem_cons_zero, List.setIfInBounds_toArray, List.set_cons_zero, List.set_cons_succ])
                refine wpAnyH_take (i := 5) (v := ?_) rfl (by kernel_rfl) (by kernel_rfl) (by kernel_rfl) (fun _ _ _ h => h) (Or.inl ⟨by rfl, ?_⟩) (by assumption) ?_
                rotate_left
                · (intro w hSw; (try dsimp only at hSw); go_simp; (try with_reducible rfl))
                (try simp only [Act.put, List.getElem_toArray, List.getElem_cons_succ, List.getElem_cons_zero, List.setIfInBounds_toArray, List.set_cons_zero, List.set_cons_succ])
                refine wpAnyH_take (i := 6) (v := ?_) rfl (by kernel_rfl) (by kernel_rfl) (by kernel_rfl) (fun _ _ _ h => h) (Or.inl ⟨by rfl, ?_⟩) (by assumption) ?_
                rotate_left
                · (intro w hSw; (try dsimp only at hSw); go_simp; (try with_reducible rfl))
                (try simp only [Act.put, List.getElem_toArray, List.getElem_cons_succ, List.getElem_cons_zero, List.setIfInBounds_toArray, List.set_cons_zero, List.set_cons_succ])
                refine wpAnyH_take (i := 7) (v := ?_) rfl (by kernel_rfl) (by kernel_rfl) (by kernel_rfl) (fun _ _ _ h => h) (Or.inl ⟨by rfl, ?_⟩) (by assumption) ?_
                rotate_left
                · (intro w hSw; (try dsimp only at hSw); go_simp; (try with_reducible rfl))
                (try simp only [Act.put, List.getElem_toArray, List.getElem_cons_succ, List.getElem_cons_zero, List.setIfInBounds_toArray, List.set_cons_zero, List.set_cons_succ])
                refine wpAnyH_take (i := 8) (v := ?_) rfl (by kernel_rfl) (by kernel_rfl) (by kernel_rfl) (fun _ _ _ h => h) (Or.inl ⟨by rfl, ?_⟩) (by assumption) ?_
                rotate_left
                · (intro w hSw; (try dsimp only at hSw); go_simp; (try with_reducible rfl))
                (try simp only [Act.put, List.getElem_toArray, List.getElem_cons_succ, List.getElem_cons_zero, List.setIfInBounds_toArray, List.set_cons_zero, List.set_cons_succ])
                refine wpAnyH_take (i := 9) (v := ?_) rfl (by kernel_rfl) (by kernel_rfl) (by kernel_rfl) (fun _ _ _ h => h) (Or.inl ⟨by rfl, ?_⟩) (by assumption) ?_
                rotate_left
                · (intro w hSw; (try dsimp only at hSw); go_simp; (try with_reducible rfl))
                (try simp only [Act.put, List.getElem_toArray, List.getElem_cons_succ, List.getElem_cons_zero, List.setIfInBounds_toArray, List.set_cons_zero, List.set_cons_succ])
                refine wpAnyH_take (i := 10) (v := ?_) rfl (by kernel_rfl) (by kernel_rfl) (by kernel_rfl) (fun _ _ _ h => h) (Or.inl ⟨by rfl, ?_⟩) (by assumption) ?_
                rotate_left
                · (intro w hSw; (try dsimp only at hSw); go_simp; (try with_reducible rfl))
                (try simp only [Act.put, List.getElem_toArray, List.getElem_cons_succ, List.getElem_cons_zero, List.setIfInBounds_toArray, List.set_cons_zero, List.set_cons_succ])
                refine wpAnyH_take (i := 11) (v := ?_) rfl (by kernel_rfl) (by kernel_rfl) (by kernel_rfl) (fun _ _ _ h => h) (Or.inl ⟨by rfl, ?_⟩) (by assumption) ?_
                rotate_left
                · (intro w hSw; (try dsimp only at hSw); go_simp; (try with_reducible rfl))
                (try simp only [Act.put, List.getElem_toArray, List.getElem_cons_succ, List.getElem_cons_zero, List.setIfInBounds_toArray, List.set_cons_zero, List.set_cons_succ])
                refine wpAnyH_ready (rs := [12]) (by kernel_rfl) (by simp) (AllReadyH.cons rfl (fun K hK => ?_) AllReadyH.nil)
                go_simp
                refine hK.out _ _ ?_ (fun hHeld => ?_)
                · ((try dsimp only); (first | exact mk4 (BA.out.grown hgrow (by simp; have := hbI.size; omega) (fun g hg => (hor.lt g hg).1)) e1 e2 e3 e4 | exact mk4 BA.out e1 e2 e3 e4 | exact mk4 hbI.drew e1 e2 e3 e4))
                clear hK K
                (try simp only [Act.put, List.getElem_toArray, List.getElem_cons_succ, List.getElem_cons_zero, List.setIfInBounds_toArray, List.set_cons_zero, List.set_cons_succ])
                refine wpAnyH_ready (rs := [13]) (by kernel_rfl) (by simp) (AllReadyH.cons rfl (fun K hK => ?_) AllReadyH.nil)
                (first | ((refine step_append_lies _ (by rfl) _ _ _ (by rfl) wi.heap.size 3 j0 (.int .i64 0) 1 8 Try.underlying31 HJ.out.1 HJ.out.2.1 HJ.out.2.2.1 HJ.out.2.2.2 rfl (by decide) _ _ _ (by rfl) (World.ownsRow.alloc (w := wr.drew) hor _) ⟨wr.heap.size, 0, none⟩ 1 1 [.int .i64 y] (by rfl) (by rfl) (cell_one_new _ _ _) (one_i64 _) (by omega) (by unfold maxLen; omega) (by omega) (by simp; have := hbI.size; omega) (wr.heap.size + 1) (by simp) ?_; intro gg gcap w1 hown1 hgrow hat hltg)) | (go_simp; (refine step_append_lies _ (by rfl) _ _ _ (by rfl) wi.heap.size 3 j0 (.int .i64 0) 1 8 Try.underlying31 HJ.out.1 HJ.out.2.1 HJ.out.2.2.1 HJ.out.2.2.2 rfl (by decide) _ _ _ (by rfl) (World.ownsRow.alloc (w := wr.drew) hor _) ⟨wr.heap.size, 0, none⟩ 1 1 [.int .i64 y] (by rfl) (by rfl) (cell_one_new _ _ _) (one_i64 _) (by omega) (by unfold maxLen; omega) (by omega) (by simp; have := hbI.size; omega) (wr.heap.size + 1) (by simp) ?_; intro gg gcap w1 hown1 hgrow hat hltg)))
                (try (go_wp2_with fail))
                refine hK.out _ _ ?_ (fun hHeld => ?_)
                · ((try dsimp only); (first | exact mk4 (BA.out.grown hgrow (by simp; have := hbI.size; omega) (fun g hg => (hor.lt g hg).1)) e1 e2 e3 e4 | exact mk4 BA.out e1 e2 e3 e4 | exact mk4 hbI.drew e1 e2 e3 e4))
                clear hK K
                (try simp only [Act.put, List.getElem_toArray, List.getElem_cons_succ, List.getElem_cons_zero, List.setIfInBounds_toArray, List.set_cons_zero, List.set_cons_succ])
                refine wpAnyH_take (i := 14) (v := ?_) rfl (by kernel_rfl) (by kernel_rfl) (by kernel_rfl) (fun _ _ _ h => h) (Or.inl ⟨by rfl, ?_⟩) (by assumption) ?_
                rotate_left
                · (intro w hSw; (try dsimp only at hSw); go_simp; (try with_reducible rfl))
                (try simp only [Act.put, List.getElem_toArray, List.getElem_cons_succ, List.getElem_cons_zero, List.setIfInBounds_toArray, List.set_cons_zero, List.set_cons_succ])
                refine wpAnyH_done (by kernel_rfl) ?_ _
                refine NoPanic.normal ?_
                have hor' := OwnI.snoc hown1
                have HBI := Lib.hid hHeld.2.2.2.2
                clear hown1 hgrow hat hltg hHeld f1 e4
                go_wp2_with fail
                go_roundw
                case rel => exact ⟨k + 1, _, by omega, by go_num, Lib.hid (by rw [HST.out, hl2.out]), hor', HBI.out⟩
                case measure => simp [intOf]; omega
              · obtain rfl : k = ms.length := by omega
                have HLR : Hid (l = rowOf q row) := Lib.hid (by rw [hl2.out, HRO.out, List.take_length])
                obtain ⟨ar2, capr, rfl, -⟩ := hor.read
                have s1 := hb.size
                have s2 := hbI.size
                have hos := (HO.out.same (Below.keeps hbI (Nat.le_refl _))).same (w' := wr.alloc (.cells #[.slice ar2 l.length capr] 31)) (fun g _ hg => Below.heap_alloc _ _ _ (by omega))
                obtain ⟨V, o1, o2, o3, o4⟩ := hos
                have hou : OwnI (wr.alloc (.cells #[.slice ar2 l.length capr] 31)) w2.heap.size (.slice ar2 l.length capr) l := OwnI.base (World.ownsRow.alloc hor _) s1
                have O1 := Lib.hid o1
                have O2 := Lib.hid o2
                have O3 := Lib.hid o3
                have O4 := Lib.hid o4
                have HHU := Lib.hid (hor.lt)
                have e5 := (hbI.cell (World.block_lt_of_cell? wi _ e1)).trans e1
                clear o1 o2 o3 o4
                go_wp2_with (at_builtin; refine wpList_append_own _ rfl _ _ 22 rfl w2.heap.size 31 i0 (.slice none 0 0) 1 24 Try.underlying22 HI.out.1 HI.out.2.1 HI.out.2.2.1 HI.out.2.2.2 rfl (by decide) _ _ _ rfl O1.out ⟨wr.heap.size, 0, none⟩ 1 1 [.slice ar2 l.length capr] rfl rfl (cell_one_new _ _ _) (one_slice _ _ _) (by unfold maxLen; omega) (by omega) (by simp; omega) ?_; intro v' w3 hown' hgrow _)
                have s3 := hgrow.size
                simp only [World.size_alloc] at s3
                have hos3 := Lib.hid (OwnSS.snocV O1.out O2.out O3.out O4.out hou (fun g hg => ⟨(HHU.out g hg).1, by have := (HHU.out g hg).2; omega⟩) hown' hgrow (by omega) (fun g hg => (World.ownsRow.lt hown' g hg).2))
                have hb3 := ((hb.trans (hbI.mono s1)).alloc (by omega) (.cells #[.slice ar2 l.length capr] 31)).grown hgrow (by simp; omega) (fun g hg => (World.ownsRow.lt O1.out g hg).1)
                clear hown' hgrow hou hor hbI
                go_wp2_with fail
                go_roundw
                case rel => exact ⟨i + 1, L ++ [l], by omega, by go_num, Lib.hid (by rw [HLS.out, hL.out, HLR.out]), hos3, hb3⟩
                case measure => simp [intOf]; omega
          · obtain rfl : i = ll.length := by omega
            have HLL : Hid (L = ll.map (rowOf q)) := Lib.hid (by have := hL.out; rwa [List.take_length] at this)
            clear hLl
            obtain ⟨ao, capo, rfl, hcapo⟩ := HO.out.cap
            rw [← HLL.out] at HON HE
            have HCC := Lib.hid (HON.out _ wi ⟨HO.out.read, _, _, rfl, hcapo⟩)
            have HX3 := Lib.hid (And.intro ((hb.cell (World.block_lt_of_cell? w2 _ HX2.out.1)).trans HX2.out.1) ((hb.cell (World.block_lt_of_cell? w2 _ HX2.out.2)).trans HX2.out.2))
            clear hcapo
            go_wp2_with fail
            refine HCC.out.mono ?_
            rintro e w9 ⟨v9, rfl, o9, b9⟩
            have zc0 := (b9.cell (World.block_lt_of_cell? wi _ HX3.out.1)).trans HX3.out.1
            have zc1 := (b9.cell (World.block_lt_of_cell? wi _ HX3.out.2)).trans HX3.out.2
            have hl1 : w.heap.size + 1 < w2.heap.size := World.block_lt_of_cell? w2 _ HX2.out.1
            have zf0 := (b9.frozen (p := ⟨w.heap.size + 1, 0, none⟩) (by have := hb.size; simp; omega)).trans ((hb.frozen (p := ⟨w.heap.size + 1, 0, none⟩) hl1).trans HF2.out.1)
            have zf1 := (b9.frozen (p := ⟨w.heap.size + 1, 1, none⟩) (by have := hb.size; simp; omega)).trans ((hb.frozen (p := ⟨w.heap.size + 1, 1, none⟩) hl1).trans HF2.out.2)
            obtain ⟨a9, cap9, rfl, -⟩ := o9.read
            have s1 := hb.size
            have s2 := b9.size
            have s3 := HB2.out.size
            simp only [World.size_alloc] at s3
            go_wp2_with fail
            refine bodyPost_ret (v := .agg #[.int .i64 (ms.length : Int), .slice a9 (onceL L).length cap9]) (by simp [results, Try.results18, go_sem, zc0, zc1]) rfl ⟨_, by rw [HE.out.1], by rw [HE.out.2]; exact (o9.same (((Same.refl _ _ _).setCell (.inl (by simp; omega)) _).setCell (.inl (by simp; omega)) _)).base (by omega) (by simp), ?_⟩
            exact (((hz2.trans (hb.mono hz2.size)).trans (b9.mono (by omega))).setCell (by simp) _).setCell (by simp) _
theorem tot_le (l : List (List Int)) (m : Nat) (h : ∀ r ∈ l, r.length ≤ m) : tot l ≤ l.length * m := by
  induction l with
  | nil => simp [tot]
  | cons r t ih =>
    have h1 := h r (by simp)
    have h2 := ih (fun x hx => h x (by simp [hx]))
    unfold tot at *
    rw [List.map_cons, List.sum_cons, List.length_cons, Nat.succ_mul]
    omega
theorem proj_bd (c : Int) (ll : List (List Int)) (q : Int) : (projR c ll q).length ≤ 1048576 ∧ tot (projR c ll q) ≤ 1048576 := by
  obtain ⟨h1, h2⟩ := proj_tot (c := c) (ll := ll) (q := q)
  have h3 := tot_le _ 5 h2
  by_cases h : projOk c ll q = true
  · have : isT c ll = true := by unfold projOk at h; rw [Bool.and_eq_true] at h; exact h.1
    have := (isT_bd this).2.2
    exact ⟨by omega, by omega⟩
  · have : projR c ll q = [] := by unfold projR; rw [if_neg h]
    rw [this]; simp [tot]
end Go.Proofs.Ytnelddlbpdpndaa
