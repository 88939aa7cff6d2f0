/- Texts of this claim, merged: DdH, FnPrtA, ShlK. Conditions: as stated. -/
import Derived.Test.YtfndnaldgaaieaaGreatDoorSidOm
import Derived.Test.YtfndnaldgaaieaaGreatDoorDepDraw3m
import Derived.Test.YtfndnaldgaaieaaGreatDoorL5Draw2m
import Derived.Test.YtfndnaldgaaieaaGreatDoorSi29
import Derived.Test.YtfndnaldgaaieaaGreatDoorSi28
import Derived.Test.YtfndnaldgaaieaaGreatDoorSi30
import Derived.Test.YtfndnaldgaaieaaGreatDoorSi27
import Derived.Test.YtfndnaldgaaieaaGreatDoorSi33
import Derived.Test.YtfndnaldgaaieaaGreatDoorSi19
import Derived.Deep.Quiet
import Derived.Deep.RegionHeld3
import Derived.BigQuiet
import Derived.Deep.RegionLaw
import Derived.Deep.CutBlock
import Derived.Deep.DeepCutAuto
import Derived.IntWalk
namespace Go.Proofs.YtfndnaldgaaieaaGreatDoor
open Go.RowKit

theorem sd_six {c m l r : Int} {ll : List (List Int)} (h : okD c ll m l r = true) : ∀ i, i < (sdL m ll l.toNat r.toNat ll.length).length → S6 ((sdL m ll l.toNat r.toNat ll.length).getD i []) := by
  obtain ⟨hT, hm, L, R, rfl, rfl, hL, hR⟩ := okD_facts h
  intro i hi
  rw [sdL_len] at hi
  rw [show ((L : Int)).toNat = L from rfl, show ((R : Int)).toNat = R from rfl, sdL_get _ _ _ _ _ hi]
  exact kyS_s6 hT hL hR hi
theorem sd_pair {c m l r : Int} {ll : List (List Int)} (h : okD c ll m l r = true) : pairI (vioB (sdL m ll l.toNat r.toNat ll.length)) (sdL m ll l.toNat r.toNat ll.length).length = pairD c ll m l r := by
  obtain ⟨hT, hm, L, R, rfl, rfl, hL, hR⟩ := okD_facts h
  rw [sdL_len]
  exact vio_pair hT hm hL hR
theorem vio_nil : pairI (vioB []) ([] : List (List Int)).length = (-1, -1) := pairI_eq (.inl ⟨rfl, rfl, fun _ _ _ hk => absurd hk (Nat.not_lt_zero _)⟩)
theorem ok_len {c m l r : Int} {ll : List (List Int)} (h : okD c ll m l r = true) : ll.length ≤ 40 := by
  obtain ⟨hT, -⟩ := okD_facts h
  exact (isT_bd hT).2.2
section
set_option maxRecDepth 20000
set_option maxHeartbeats 1600000
theorem implHoldsDep_any (c m l r : Int) (v : Value) (ll : List (List Int)) (_w1 : (Lit.int .i64 m).wf = true) (_w2 : (Lit.int .i64 l).wf = true) (_w3 : (Lit.int .i64 r).wf = true) (w : World) (hr : ReadSS w v ll) (hl : ll.length ≤ 1048576) (ht : ∀ i, i < ll.length → (ll.getD i []).length ≤ 1048576) :
    Calls Tryz.prog 14 #[.agg #[.int .i64 c, v], .int .i64 m, .agg #[.int .i64 l, .int .i64 r]] w fun e w' => e = .returned (.bool (holdsD c ll m l r)) ∧ Below w.heap.size w w' := by
  have HS := Lib.hid (fun w' (hb : Below w.heap.size w w') => sidesOf_any c m l r v ll _w1 _w2 _w3 w' (hr.kept hb) hl ht)
  obtain ⟨a, cap, rfl, -⟩ := hr
  have hb1 := (Below.refl w.heap.size w).alloc (Nat.le_refl _) (.cells #[.int .i64 c, .slice a ll.length cap] 26)
  have hb2 := hb1.alloc hb1.size (.cells #[.int .i64 l, .int .i64 r] 28)
  have HB2 := Lib.hid hb2
  obtain ⟨⟨c0, c1⟩, d0, d1⟩ := boxTD (Below.refl ((w.alloc (.cells #[.int .i64 c, .slice a ll.length cap] 26)).alloc (.cells #[.int .i64 l, .int .i64 r] 28)).heap.size _)
  clear hb1 hb2
  cases hk : okD c ll m l r with
  | false =>
    have HE : Hid (holdsD c ll m l r = false) := Lib.hid (by unfold holdsD; rw [hk]; rfl)
    rw [hk] at HS
    clear hk ht
    go_enter Tryz.func14, Tryz.ntmps14
    go_wp2_with fail
    refine (HS.out _ HB2.out).mono ?_
    rintro e w3 ⟨u, rfl, -, b3⟩
    have hb3 := HB2.out.trans (b3.mono HB2.out.size)
    clear b3
    go_wp2_with fail
    go_ret
    exact ⟨ret_b HE.out, hb3⟩
  | true =>
    have HSIX := Lib.hid (sd_six hk)
    have HP := sd_pair hk
    have hE : holdsD c ll m l r = decide ((pairD c ll m l r).1 < 0) := by unfold holdsD; rw [hk, Bool.true_and]
    have h40 := ok_len hk
    rw [hk, if_pos rfl] at HS
    have hsl := sdL_len m ll l.toNat r.toNat ll.length
    obtain ⟨SD, hSD⟩ : ∃ SD, SD = sdL m ll l.toNat r.toNat ll.length := ⟨_, rfl⟩
    rw [← hSD] at HS HSIX HP hsl
    obtain ⟨⟨p1, p2⟩, hp⟩ : ∃ p, p = pairD c ll m l r := ⟨_, rfl⟩
    rw [← hp] at HP hE
    have HP := Lib.hid HP
    have HE := Lib.hid hE
    clear hk ht hSD hp hE
    go_enter Tryz.func14, Tryz.ntmps14
    go_wp2_with fail
    refine (HS.out _ HB2.out).mono ?_
    rintro e w3 ⟨u, rfl, ho, b3⟩
    have hb3 := HB2.out.trans (b3.mono HB2.out.size)
    have HF := Lib.hid (firstViolation_any u SD w3 ho.read HSIX.out (by omega))
    rw [HP.out] at HF
    clear b3 ho c0 c1 d0 d1
    go_wp2_with fail
    refine HF.out.mono ?_
    rintro e w4 ⟨rfl, b4⟩
    have hb4 := hb3.trans (b4.mono hb3.size)
    clear b4
    go_wp2_with fail
    go_ret
    exact ⟨ret_b (by rw [HE.out]; by_cases h : 0 ≤ p1 <;> simp only [h, decide_true, decide_false] <;> simp <;> omega), hb4⟩
end
end Go.Proofs.YtfndnaldgaaieaaGreatDoor
namespace Go.Proofs.YtfndnaldgaaieaaGreatDoor
open Go.RowKit

theorem rows_few6 {ll : List (List Int)} {m : Nat} (h : ∀ r ∈ ll, r.length ≤ m) (i : Nat) (hi : i < ll.length) : (ll.getD i []).length ≤ m :=
  h _ (by rw [List.getD_eq_getElem?_getD, List.getElem?_eq_getElem hi]; exact List.getElem_mem _)
/-- A table and a dependency, each in a box, and the table's rows readable. -/
structure TD (w : World) (T : Nat) (c : Int) (v : Value) (x y : Int) (ll : List (List Int)) : Prop where
  t : BoxIs w T c v
  d : DBox w (T + 1) x y
  s : ReadSS w v ll
theorem TD.kept {w w' : World} {T : Nat} {c x y : Int} {v : Value} {ll : List (List Int)} (h : TD w T c v x y ll) (hb : Below w.heap.size w w') : TD w' T c v x y ll :=
  ⟨h.t.kept hb h.t.lt, (hb.block _ h.d.lt).trans h.d, h.s.kept hb⟩
theorem TD.mk' {w : World} {c x y : Int} {v : Value} {ll : List (List Int)} (h : ReadSS w v ll) : TD ((w.alloc (.cells #[.int .i64 c, v] 26)).alloc (.cells #[.int .i64 x, .int .i64 y] 28)) w.heap.size c v x y ll := by
  have hb : Below w.heap.size w ((w.alloc (.cells #[.int .i64 c, v] 26)).alloc (.cells #[.int .i64 x, .int .i64 y] 28)) := ((Below.refl _ w).alloc (Nat.le_refl _) _).alloc (by simp) _
  refine ⟨BoxIs.grown (heap_alloc_new w _) (World.grownBy_alloc _ _ none) (by simp), ?_, h.kept hb⟩
  have := heap_alloc_new (w.alloc (.cells #[.int .i64 c, v] 26)) (.cells #[.int .i64 x, .int .i64 y] 28)
  rwa [World.size_alloc] at this
theorem TD.drew {w : World} {T : Nat} {c x y : Int} {v : Value} {ll : List (List Int)} (h : TD w T c v x y ll) : TD w.drew T c v x y ll := h.kept (Below.refl _ _).drew
theorem TD.all {w : World} {T : Nat} {c x y : Int} {v : Value} {ll : List (List Int)} (h : TD w T c v x y ll) : (w.cell? ⟨T, 0, none⟩ = some (.int .i64 c) ∧ w.cell? ⟨T, 1, none⟩ = some v) ∧ w.cell? ⟨T + 1, 0, none⟩ = some (.int .i64 x) ∧ w.cell? ⟨T + 1, 1, none⟩ = some (.int .i64 y) :=
  ⟨h.t.cells.1, h.d.cells.1⟩
/-- A world that has all that w has, and perhaps new blocks. -/
structure Bel (w : World) where
  x : World
  h : Below w.heap.size w x
instance (w : World) : Inhabited (Bel w) := ⟨⟨w, Below.refl _ w⟩⟩
theorem wp_region_bel {P : Program} {id : Nat} {Q : Exit → Act → World → Prop} {a : Act} {w : World} {l : List Oper} (hm : P.follows .mixedOrders = true) (hB : Region.lexB .any l.toArray = true)
    (h : wpQuiet P l.toArray (fun w' => ∃ p : Bel w, w' = p.x) (fun a' => ∀ w', (∃ p : Bel w, w' = p.x) → Q .normal a' w') l a) : (Code.region id l.toArray true).wp P Q a w :=
  wp_region_quiet (C := fun w' => ∃ p : Bel w, w' = p.x) hm hB ⟨⟨w.drew, (Below.refl _ w).drew⟩, rfl⟩ (by simpa using h)
theorem Calls.bel {P : Program} {f : FuncId} {args : Array Value} {w : World} {p : Bel w} {v : Value}
    (h : Calls P f args p.x fun e w' => e = .returned v ∧ Below p.x.heap.size p.x w') : Calls P f args p.x fun e w'' => e = .returned v ∧ ∃ q : Bel w, w'' = q.x :=
  h.mono fun _ w' ⟨he, hb⟩ => ⟨he, ⟨w', p.h.trans (hb.mono p.h.size)⟩, rfl⟩
theorem TD.bel {w : World} {T : Nat} {c x y : Int} {v : Value} {ll : List (List Int)} (h : TD w T c v x y ll) (p : Bel w) : TD p.x T c v x y ll := h.kept p.h
set_option maxHeartbeats 800000 in
theorem sameInts_any (v v' : Value) (l l' : List Int) (w : World) (hr : ReadI w v l) (hr' : ReadI w v' l') (hl : l.length ≤ 1000000000) :
    Calls Tryz.prog 35 #[v, v'] w fun e w' => e = .returned (.bool (eqB l l')) ∧ ∃ m, w' = w.drewN m := by
  obtain ⟨a, cap, rfl, ha⟩ := hr
  obtain ⟨a', cap', rfl, ha'⟩ := hr'
  have HA := Lib.hid ha
  have HA' := Lib.hid ha'
  clear ha ha'
  by_cases hlen : l.length = l'.length
  · have hne : ((l.length : Int) != (l'.length : Int)) = false := by simp [hlen]
    have HL := Lib.hid hlen
    clear hlen
    go_enter Tryz.func35, Tryz.ntmps35
    go_wp2_with fail
    go_loopw [5] (fun iv wr => ∃ (k n : Nat), k ≤ l.length ∧ iv = .int .i64 (k : Int) ∧ Hid (l.take k = l'.take k) ∧ wr = w.drewN n) (fun iv _ => l.length - (intOf iv).toNat)
    case atStart => exact ⟨0, 0, by omega, rfl, Lib.hid rfl, rfl⟩
    case round =>
      obtain ⟨k, n, hk, rfl, hsame, rfl⟩ := hrel
      by_cases hlt : k < l.length
      · have hlt' : k < l'.length := by have := HL.out; omega
        obtain ⟨x, rfl, hx⟩ := HA.out k hlt
        obtain ⟨x', rfl, hx'⟩ := HA'.out k hlt'
        have z0 : (0 : Int) ≤ (k : Int) := by omega
        have z1 : (k : Int) < (l.length : Int) := by omega
        have z2 : (k : Int) < (l'.length : Int) := by omega
        by_cases he : l[k] = l'[k]
        · have hb : (l[k] != l'[k]) = false := by simp [he]
          have HE := Lib.hid he
          clear he
          go_wp2_with fail
          go_quiet (fail)
          go_wp2_with fail
          go_roundw
          case rel => exact ⟨k + 1, _, by omega, by go_num, Lib.hid (by rw [List.take_succ_eq_append_getElem hlt, List.take_succ_eq_append_getElem hlt', hsame.out, HE.out]), rfl⟩
          case measure => simp [intOf]; omega
        · have hb : (l[k] != l'[k]) = true := by simpa using he
          have HE := Lib.hid he
          clear he
          go_wp2_with fail
          go_quiet (fail)
          go_wp2_with fail
          go_ret
          exact ⟨ret_b (by unfold eqB; rw [decide_eq_false]; intro e; apply HE.out; simp only [e]), _, World.drewN_drewN _ _ _⟩
      · go_wp2_with fail
        go_ret
        exact ⟨ret_b (by
          unfold eqB
          rw [decide_eq_true]
          have := hsame.out
          rwa [List.take_of_length_le (by omega), List.take_of_length_le (by have := HL.out; omega)] at this), _, rfl⟩
  · have hne : ((l.length : Int) != (l'.length : Int)) = true := by simp; omega
    have HL := Lib.hid hlen
    clear hlen
    go_enter Tryz.func35, Tryz.ntmps35
    go_wp2_with fail
    go_ret
    exact ⟨ret_b (by unfold eqB; rw [decide_eq_false]; intro e; exact HL.out (by rw [e])), 0, rfl⟩

set_option maxHeartbeats 1600000 in
set_option maxRecDepth 20000 in
/-- A list of classes against one that reads alike. -/
theorem samePart_any (v v' : Value) (p : List (List Int)) (w : World) (hr : ReadSS w v p) (hr' : ReadSS w v' p) (hl : p.length ≤ 1048576) (ht : tot p ≤ 1048576) :
    Calls Tryz.prog 7 #[v, v'] w fun e w' => e = .returned (.bool true) ∧ Below w.heap.size w w' := by
  obtain ⟨a, cap, rfl, ha⟩ := hr
  obtain ⟨a', cap', rfl, ha'⟩ := hr'
  have HA := Lib.hid ha
  have HA' := Lib.hid ha'
  have HT := Lib.hid (fun i (hi : i < p.length) => tot_get hi)
  clear ha ha'
  go_enter Tryz.func7, Tryz.ntmps7
  go_wp2_with fail
  go_loopw [5] (fun iv wr => ∃ i : Nat, i ≤ p.length ∧ iv = .int .i64 (i : Int) ∧ Below w.heap.size w wr) (fun iv _ => p.length - (intOf iv).toNat)
  case atStart => exact ⟨0, by omega, rfl, Below.refl _ _⟩
  case round =>
    obtain ⟨i, hi, rfl, hb⟩ := hrel
    obtain ⟨w1, hw1⟩ : ∃ w', w' = wr := ⟨_, rfl⟩
    rw [← hw1] at hb ⊢
    clear hw1
    by_cases hlt : i < p.length
    · obtain ⟨x, u, rfl, hx, hu⟩ := HA.out i hlt
      obtain ⟨x', u', rfl, hx', hu'⟩ := HA'.out i hlt
      replace hx := (hb.cell (World.block_lt_of_cell? w _ hx)).trans hx
      replace hx' := (hb.cell (World.block_lt_of_cell? w _ hx')).trans hx'
      have hlr := HT.out i hlt
      have z0 : (0 : Int) ≤ (i : Int) := by omega
      have z1 : (i : Int) < (p.length : Int) := by omega
      obtain ⟨r, hrr⟩ : ∃ r, r = p.getD i [] := ⟨_, rfl⟩
      rw [← hrr] at hu hu' hlr
      clear hrr
      have HQ : Hid (∀ w', Below w.heap.size w w' → Calls Tryz.prog 35 #[u, u'] w' fun e w'' => e = .returned (.bool true) ∧ Below w'.heap.size w' w'') := Lib.hid (fun w' b =>
        (sameInts_any u u' r r w' (hu.kept b) (hu'.kept b) (by omega)).mono fun _ _ ⟨a, m, c⟩ => ⟨by rw [a]; unfold eqB; simp, by rw [c]; exact below_drewN (Below.refl _ _) m⟩)
      obtain ⟨ua, uc, rfl, -⟩ := hu
      obtain ⟨ua', uc', rfl, -⟩ := hu'
      have HBD := Lib.hid hb
      go_wp2_with fail
      go_region_law (go_simp; go_at_call 35; refine (HQ.out w1.drew HBD.out.drew).mono ?_; rintro e w2 ⟨rfl, b2⟩)
      all_goals
        have hb2 := HBD.out.drew.trans (b2.mono HBD.out.size)
        clear hx hx' b2
        go_wp2_with fail
        go_roundw
        case rel => exact ⟨i + 1, by omega, by go_num, hb2⟩
        case measure => simp [intOf]; omega
    · obtain rfl : i = p.length := by omega
      go_wp2_with fail
      go_ret
      exact ⟨rfl, hb⟩
/-- or of two small sets. -/
theorem or_small {a b : Nat} (ha : a < 32) (hb : b < 32) : bits .or .i64 (a : Int) (b : Int) = ((a ||| b : Nat) : Int) := by
  have h : ∀ x y : Fin 32, bits .or .i64 ((x.val : Nat) : Int) ((y.val : Nat) : Int) = ((x.val ||| y.val : Nat) : Int) := by decide +kernel
  exact h ⟨a, ha⟩ ⟨b, hb⟩
/-- What the law compares where the dependency is one of the table. -/
structure PFacts (c : Int) (ll : List (List Int)) (m : Int) (L R : Nat) : Prop where
  prod : proS (prtS c ll m (L : Int)) (prtS c ll m ((2 ^ R : Nat) : Int)) (ll.length : Int) = prtS c ll m ((L ||| 2 ^ R : Nat) : Int)
  err : (errTo (prtS c ll m (L : Int)) (prtS c ll m (L : Int)).length == errTo (prtS c ll m ((L ||| 2 ^ R : Nat) : Int)) (prtS c ll m ((L ||| 2 ^ R : Nat) : Int)).length) = holdsD c ll m (L : Int) (R : Int)
  fin1 : finB (prtS c ll m (L : Int)) (prtS c ll m ((2 ^ R : Nat) : Int)) = holdsD c ll m (L : Int) (R : Int)
  fin2 : finB (prtS c ll m ((L ||| 2 ^ R : Nat) : Int)) (prtS c ll m (L : Int)) = true
  part : partP (prtS c ll m (L : Int)) (ll.length : Int) = true
theorem isA_small {C S : Nat} (hC : C ≤ 5) (hS : S < 2 ^ C) : isA (C : Int) (S : Int) = true := by
  unfold isA
  rw [decide_eq_true_iff]
  have : ((2 ^ C : Nat) : Int) = (2 : Int) ^ C := by rw [Int.natCast_pow]; rfl
  rw [show ((C : Int)).toNat = C from rfl]
  omega
theorem pfacts {c : Int} {ll : List (List Int)} {m : Int} {L R : Nat} (hk : okD c ll m (L : Int) (R : Int) = true) : PFacts c ll m L R := by
  obtain ⟨hT, hm, L', R', e1, e2, hL, hR⟩ := okD_facts hk
  obtain rfl : L' = L := by omega
  obtain rfl : R' = R := by omega
  obtain ⟨c1, c5, h40⟩ := isT_bd hT
  obtain ⟨C, rfl⟩ : ∃ C : Nat, c = (C : Int) := ⟨c.toNat, by omega⟩
  rw [show ((C : Int)).toNat = C from rfl] at hL hR
  have hC : C ≤ 5 := by omega
  have hf : fineT (C : Int) ll m = true := by
    unfold okD at hk
    rw [Bool.and_eq_true] at hk
    exact hk.1
  have hP : 2 ^ R' < 2 ^ C := Nat.pow_lt_pow_right (by omega) hR
  have hO : (L' ||| 2 ^ R') < 2 ^ C := or_lt ⟨C, by omega⟩ ⟨L', lt32 hC hL⟩ ⟨R', by omega⟩ hL hR
  have k1 : prtS (C : Int) ll m (L' : Int) = parL C ll m L' := prtS_eq _ _ _ _ hf (isA_small hC hL)
  have k2 : prtS (C : Int) ll m ((2 ^ R' : Nat) : Int) = parL C ll m (2 ^ R') := prtS_eq _ _ _ _ hf (isA_small hC hP)
  have k3 : prtS (C : Int) ll m ((L' ||| 2 ^ R' : Nat) : Int) = parL C ll m (L' ||| 2 ^ R') := prtS_eq _ _ _ _ hf (isA_small hC hO)
  have hH : holdsD (C : Int) ll m (L' : Int) (R' : Int) = true ↔ HoldsAll C ll m L' R' := by
    unfold holdsD pairD
    rw [hk, Bool.true_and, decide_eq_true_iff]
    exact pairI_holds hC hR
  refine ⟨by rw [k1, k2, k3]; exact parL_product hC hL hR h40, ?_, ?_, ?_, by rw [k1]; exact parL_part hC hL h40⟩
  · rw [k1, k3, Bool.eq_iff_iff, beq_iff_eq, hH]
    exact holds_error hC hL hR
  · rw [k1, k2, Bool.eq_iff_iff, hH]
    exact parL_finer hC hL hP h40
  · rw [k1, k3]
    exact (parL_finer hC hO hL h40).2 (or_finer hC hL hR)
end Go.Proofs.YtfndnaldgaaieaaGreatDoor
namespace Go.Proofs.YtfndnaldgaaieaaGreatDoor
open Go.RowKit

theorem sh_small {n : Nat} (h : n ≤ 20) : wrap64 (2 ^ n) = ((2 ^ n : Nat) : Int) := by
  have : ∀ n : Fin 21, wrap64 (2 ^ n.val) = ((2 ^ n.val : Nat) : Int) := by decide +kernel
  exact this ⟨n, by omega⟩
theorem shl_run (n : Nat) (h : n ≤ 20) : Op.shift .shl .i64 1 .i64 (n : Int) = (pure (.int .i64 ((2 ^ n : Nat) : Int)) : Sem Value) := by
  unfold Op.shift
  have h1 : ¬ (n : Int) < 0 := by omega
  have h2 : min ((n : Int)).toNat IntKind.i64.bits = n := by
    show min ((n : Int)).toNat 64 = n
    omega
  have h3 : IntKind.i64.wrap (1 * 2 ^ n) = ((2 ^ n : Nat) : Int) := by
    rw [Int.one_mul, IntWalk.i64_left]
    exact sh_small h
  simp only [if_neg h1, h2, h3]
section
variable (w : World) {ops : Array Oper} {rest : List Oper} {o : Oper} {a : Act} {Q : Exit → Act → World → Prop}
/-- '1 << n', n at most 20: the number by a name. -/
theorem wpList_shl1 (hg : o.guard = none) (x y : Operand) (t t' : TypeId) (hop : o.op = Op.binOp .shl t x y t') (n N : Nat) (hN : N = 2 ^ n) (hx : a.eval x = .int .i64 1) (hy : a.eval y = .int .i64 (n : Int)) (h : n ≤ 20)
    (hK : wpList Tryz.prog ops Q rest (a.put o.dst (.int .i64 (N : Int))) w) : wpList Tryz.prog ops Q (o :: rest) a w := by
  subst hN
  refine wpList_plain hg fun K' hK' => ?_
  unfold Oper.wp
  simp only [execOp, hop, hx, hy, binOp_shl, shl_run n h, Sem.run_pure, Sem.run_bind, Result.andThen]
  exact hK' _ _ hK
end
theorem shr_run (m n : Nat) (h : n ≤ 20) : Op.shift .shr .i64 (m : Int) .i64 (n : Int) = (pure (.int .i64 ((m / 2 ^ n : Nat) : Int)) : Sem Value) := by
  rw [shift_shr_any .i64 .i64 _ _ (by omega)]
  have h2 : min ((n : Int)).toNat IntKind.i64.bits = n := by
    show min ((n : Int)).toNat 64 = n
    omega
  rw [h2]
  have h3 : (m : Int) / 2 ^ n = ((m / 2 ^ n : Nat) : Int) := by rw [Int.natCast_ediv, Int.natCast_pow]; rfl
  rw [h3]
section
variable (w : World) {ops : Array Oper} {rest : List Oper} {o : Oper} {a : Act} {Q : Exit → Act → World → Prop}
theorem wpList_shr (hg : o.guard = none) (x y : Operand) (t t' : TypeId) (hop : o.op = Op.binOp .shr t x y t') (m n Z : Nat) (hZ : Z = m / 2 ^ n) (hx : a.eval x = .int .i64 (m : Int)) (hy : a.eval y = .int .i64 (n : Int)) (h : n ≤ 20)
    (hK : wpList Tryz.prog ops Q rest (a.put o.dst (.int .i64 (Z : Int))) w) : wpList Tryz.prog ops Q (o :: rest) a w := by
  subst hZ
  refine wpList_plain hg fun K' hK' => ?_
  unfold Oper.wp
  simp only [execOp, hop, hx, hy, binOp_shr, shr_run m n h, Sem.run_pure, Sem.run_bind, Result.andThen]
  exact hK' _ _ hK
end
end Go.Proofs.YtfndnaldgaaieaaGreatDoor
