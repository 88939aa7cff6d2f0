/- Texts of this claim, merged: TrD, TrE, TrF, ImB, TpA. Conditions: as stated. -/
import Derived.Test.YtnbjcelfdppkcabTz21
import Derived.Deep.AppendLies
import Derived.Deep.RegionLaw
import Derived.Laws.OwnMore
import Derived.Test.YtnbjcelfdppkcabTz11
import Derived.Test.YtnbjcelfdppkcabTz12
namespace Go.Proofs.Ytnbjcelfdppkcab
open Go.RowKit

set_option maxHeartbeats 1600000 in
theorem hitsAll9_any (v : Value) (E : List Int) (x : Int) (w : World) (hr : ReadI w v E) (hl : E.length ≤ 1048576) :
    Calls Try.prog 10 #[v, .int .i64 x] w fun e w' => e = .returned (.bool (hitsA E x)) ∧ w = w' := by
  obtain ⟨a, cap, rfl, ha⟩ := hr
  have HA := Lib.hid ha
  have HV := Lib.hid (fun x => valid_any x w)
  clear ha
  go_enter Try.func10, Try.ntmps10
  go_wp2_with fail
  go_loop [5] (fun iv => ∃ k : Nat, k ≤ E.length ∧ iv = .int .i64 (k : Int) ∧ Hid ((E.take k).all (fun e => valB e && hitI e x) = true)) (fun iv => E.length - (intOf iv).toNat)
  case atStart => exact ⟨0, by omega, rfl, Lib.hid rfl⟩
  case round =>
    obtain ⟨k, hk, rfl, hall⟩ := hrel
    by_cases hlt : k < E.length
    · obtain ⟨b, rfl, hb⟩ := HA.out k hlt
      have z0 : (0 : Int) ≤ (k : Int) := by omega
      have z1 : (k : Int) < (E.length : Int) := by omega
      have HOK := Lib.hid (fun h => all_snoc (p := fun e => valB e && hitI e x) hlt hall.out h)
      have HNO := Lib.hid (fun h => all_not (p := fun e => valB e && hitI e x) hlt h)
      obtain ⟨y, hy⟩ : ∃ y, y = E[k] := ⟨_, rfl⟩
      rw [← hy] at hb HOK HNO
      have HQ := Lib.hid (HV.out y)
      clear hy
      cases hv : valB y with
      | true =>
        rw [hv] at HQ
        obtain ⟨pb, hpb⟩ : ∃ pb, (bits .and .i64 y x == 0) = pb := ⟨_, rfl⟩
        cases pb with
        | false =>
          have HX := Lib.hid (HOK.out (by show (valB y && !(bits .and .i64 y x == 0)) = true; rw [hv, hpb]; rfl))
          clear hv
          go_wp2_with fail
          refine HQ.out.mono ?_
          rintro e w' ⟨rfl, rfl⟩
          go_wp2_with fail
          go_round
          case rel => exact ⟨k + 1, by omega, by go_num, HX⟩
          case measure => simp [intOf]; omega
        | true =>
          have HX := Lib.hid (HNO.out (by show (valB y && !(bits .and .i64 y x == 0)) = false; rw [hv, hpb]; rfl))
          clear hv
          go_wp2_with fail
          refine HQ.out.mono ?_
          rintro e w' ⟨rfl, rfl⟩
          go_wp2_with fail
          go_ret
          exact ⟨ret_b (by unfold hitsA; rw [HX.out]; rfl), rfl⟩
      | false =>
        rw [hv] at HQ
        have HX := Lib.hid (HNO.out (by show (valB y && _) = false; rw [hv]; rfl))
        clear hv
        go_wp2_with fail
        refine HQ.out.mono ?_
        rintro e w' ⟨rfl, rfl⟩
        go_wp2_with fail
        go_ret
        exact ⟨ret_b (by unfold hitsA; rw [HX.out]; rfl), rfl⟩
    · obtain rfl : k = E.length := by omega
      have HX : Hid (E.all (fun e => valB e && hitI e x) = true) := Lib.hid (by have := hall.out; rwa [List.take_length] at this)
      have HQ := Lib.hid (HV.out x)
      go_wp2_with fail
      refine HQ.out.mono ?_
      rintro e w' ⟨rfl, rfl⟩
      go_wp2_with fail
      go_ret
      exact ⟨ret_b (by unfold hitsA; rw [HX.out, Bool.true_and]), rfl⟩
theorem grwOne_len (e y : Int) : ∀ k, (grwOne e y k).length ≤ k
  | 0 => by simp [grwOne]
  | k + 1 => by
    have := grwOne_len e y k
    unfold grwOne
    split
    · rw [List.length_append, List.length_singleton]; omega
    · omega
theorem grwTo_len (l : List Int) (e : Int) : ∀ i, (grwTo l e i).length ≤ 5 * i
  | 0 => by simp [grwTo]
  | i + 1 => by
    have := grwTo_len l e i
    have := grwOne_len e (l.getD i 0) 5
    unfold grwTo
    split
    · rw [List.length_append, List.length_singleton]; omega
    · rw [List.length_append]; omega
theorem ddTo_len (l : List Int) : ∀ i, (ddTo l i).length ≤ i
  | 0 => by simp [ddTo]
  | i + 1 => by
    have := ddTo_len l i
    have := put4_len (ddTo l i) (l.getD i 0)
    unfold ddTo
    omega
end Go.Proofs.Ytnbjcelfdppkcab
namespace Go.Proofs.Ytnbjcelfdppkcab
open Go.RowKit

section
set_option maxRecDepth 20000
set_option maxHeartbeats 3200000
theorem grow9_any (v : Value) (L : List Int) (e : Int) (w : World) (hr : ReadI w v L) (hl : L.length ≤ 1048576) :
    Calls Try.prog 15 #[v, .int .i64 e] w (RetI (grwL L e) w) := by
  obtain ⟨i0, hi, hz0, hz1, hz2⟩ := info_parts info3i
  have HI : Hid (_ ∧ _ ∧ _ ∧ _) := Lib.hid ⟨hi, hz0, hz1, hz2⟩
  clear hi hz0 hz1 hz2
  have HS := Lib.hid (fun w' (hb : Below w.heap.size w w') => l4Sets_any v L w' (hr.kept hb) hl)
  have HV := Lib.hid (fun w' => valid_any e w')
  have HP := Lib.hid (fun (v : Value) (d : List Int) (x : Int) w' (ho : OwnI w' w.heap.size v d) (hB : w.heap.size ≤ w'.heap.size) (hd : d.length ≤ 1000000) => l4Put_any v d x w.heap.size w' ho hB hd)
  obtain ⟨a, cap, rfl, ha⟩ := hr
  have HA := Lib.hid ha
  clear ha
  have ho0 : OwnI (w.alloc (.cells #[] 3)) w.heap.size (.slice (some ⟨w.heap.size, 0, none⟩) 0 0) [] := OwnI.made (World.ownsRow_made w #[] 0 (Nat.le_refl _) (by unfold maxLen; omega) rfl)
  have hb0 : Below w.heap.size w (w.alloc (.cells #[] 3)) := (Below.refl _ _).alloc (Nat.le_refl _) _
  have HO0 := Lib.hid ho0
  have HB0 := Lib.hid hb0
  clear ho0 hb0
  cases hs : setsOk L with
  | false =>
    have HE : Hid (grwL L e = []) := Lib.hid (by unfold grwL; rw [hs]; simp)
    rw [hs] at HS
    clear hs
    go_enter Try.func15, Try.ntmps15
    go_wp2_with fail
    refine (HS.out _ HB0.out).mono ?_
    rintro e' w' ⟨rfl, rfl⟩
    go_wp2_with fail
    go_ret
    exact ⟨_, rfl, by rw [HE.out]; exact HO0.out, HB0.out⟩
  | true =>
    cases hv : valB e with
    | false =>
      have HE : Hid (grwL L e = []) := Lib.hid (by unfold grwL; rw [hv]; simp)
      rw [hs] at HS
      rw [hv] at HV
      clear hs hv
      go_enter Try.func15, Try.ntmps15
      go_wp2_with fail
      refine (HS.out _ HB0.out).mono ?_
      rintro e' w' ⟨rfl, rfl⟩
      go_wp2_with fail
      refine (HV.out _).mono ?_
      rintro e' w' ⟨rfl, rfl⟩
      go_wp2_with fail
      go_ret
      exact ⟨_, rfl, by rw [HE.out]; exact HO0.out, HB0.out⟩
    | true =>
      have HE : Hid (grwL L e = minS (ddTo (grwTo L e L.length) (grwTo L e L.length).length)) := Lib.hid (by unfold grwL; rw [hs, hv]; rfl)
      have hl100 : L.length ≤ 100 := by unfold setsOk at hs; rw [Bool.and_eq_true, decide_eq_true_iff] at hs; exact hs.2
      rw [hs] at HS
      rw [hv] at HV
      obtain ⟨X, rfl, hX⟩ := valN hv
      have HST : Hid (∀ i, grwTo L (X : Int) (i + 1) = if (bits .and .i64 (L.getD i 0) (X : Int) != 0) = true then grwTo L (X : Int) i ++ [L.getD i 0] else grwTo L (X : Int) i ++ grwOne (X : Int) (L.getD i 0) 5) := Lib.hid (fun i => rfl)
      have HSO : Hid (∀ (y : Int) (k : Nat), grwOne (X : Int) y (k + 1) = if bitB ((X : Int)).toNat k = true then grwOne (X : Int) y k ++ [bits .or .i64 y (2 ^ k)] else grwOne (X : Int) y k) := Lib.hid (fun y k => rfl)
      have HLT := Lib.hid (grwTo_len L (X : Int))
      have HLO := Lib.hid (grwOne_len (X : Int))
      clear hs hv hX
      go_enter Try.func15, Try.ntmps15
      go_wp2_with fail
      refine (HS.out _ HB0.out).mono ?_
      rintro e' w' ⟨rfl, rfl⟩
      go_wp2_with fail
      refine (HV.out _).mono ?_
      rintro e' w' ⟨rfl, rfl⟩
      go_wp2_with fail
      go_loopw [5, 6] (fun ov iv wr => ∃ (i : Nat) (q : List Int), i ≤ L.length ∧ iv = .int .i64 (i : Int) ∧ Hid (q = grwTo L (X : Int) i) ∧ Hid (OwnI wr w.heap.size ov q) ∧ Hid (Below w.heap.size w wr)) (fun _ iv _ => L.length - (intOf iv).toNat)
      case atStart => exact ⟨0, [], by omega, rfl, Lib.hid rfl, HO0, HB0⟩
      case round =>
        clear HO0 HB0
        obtain ⟨i, q, hi, rfl, hq, HO, HB⟩ := hrel
        obtain ⟨w3, hw3⟩ : ∃ w', w' = wr := ⟨_, rfl⟩
        rw [← hw3] at HO HB ⊢
        clear hw3
        have z0 : (0 : Int) ≤ (i : Int) := by omega
        have hql : q.length ≤ 500 := by rw [hq.out]; have := HLT.out i; omega
        by_cases hlt : i < L.length
        · obtain ⟨b, rfl, hb⟩ := HA.out i hlt
          have z1 : (i : Int) < (L.length : Int) := by omega
          have hS := HST.out i
          rw [← get_getD L i hlt, ← hq.out] at hS
          obtain ⟨y, hy⟩ : ∃ y, y = L[i] := ⟨_, rfl⟩
          rw [← hy] at hb hS
          clear hy hq
          have hb3 := (HB.out.cell (World.block_lt_of_cell? _ _ hb)).trans hb
          obtain ⟨pb, hpb⟩ : ∃ pb, (bits .and .i64 y (X : Int) != 0) = pb := ⟨_, rfl⟩
          rw [hpb] at hS
          cases pb with
          | true =>
            have HX : Hid (grwTo L (X : Int) (i + 1) = q ++ [y]) := Lib.hid (by rw [hS]; rfl)
            have ho := HO.out
            clear hS
            go_wp2_with (at_builtin; refine wpList_append_own _ rfl _ _ 24 rfl w.heap.size 3 i0 (.int .i64 0) 1 8 Try.underlying24 HI.out.1 HI.out.2.1 HI.out.2.2.1 HI.out.2.2.2 rfl (by decide) _ _ _ rfl (World.ownsRow.alloc ho _) ⟨w3.heap.size, 0, none⟩ 1 1 [.int .i64 y] rfl rfl (cell_one_new _ _ _) (one_i64 _) (by unfold maxLen; omega) (by omega) (by simp; have := HB.out.size; omega) ?_; intro v5 w5 hown5 hgrow5 _)
            have HO5 := Lib.hid (OwnI.snoc hown5)
            have HB5 := Lib.hid ((HB.out.alloc HB.out.size (.cells #[.int .i64 y] 3)).grown hgrow5 (by simp; have := HB.out.size; omega) (fun k hk => (HO.out.lt k hk).1))
            clear hown5 hgrow5 ho
            go_wp2_with fail
            go_roundw
            case rel => exact ⟨i + 1, _, by omega, by go_num, Lib.hid HX.out.symm, HO5, HB5⟩
            case measure => simp [intOf]; omega
          | false =>
            have HX : Hid (grwTo L (X : Int) (i + 1) = q ++ grwOne (X : Int) y 5) := Lib.hid (by rw [hS]; rfl)
            clear hS
            go_wp2_with fail
            clear hb3
            go_loopw [5, 7] (fun ov kv wr => ∃ (k : Nat) (p : List Int), k ≤ 5 ∧ kv = .int .i64 (k : Int) ∧ Hid (p = q ++ grwOne (X : Int) y k) ∧ Hid (OwnI wr w.heap.size ov p) ∧ Hid (Below w.heap.size w wr)) (fun _ kv _ => 5 - (intOf kv).toNat)
            case atStart => exact ⟨0, q, by omega, rfl, Lib.hid (List.append_nil q).symm, HO, HB⟩
            case round =>
              clear HO HB
              obtain ⟨k, p, hk, rfl, hp, HO, HB⟩ := hrel
              obtain ⟨w4, hw4⟩ : ∃ w', w' = wr := ⟨_, rfl⟩
              rw [← hw4] at HO HB ⊢
              clear hw4
              have hpl : p.length ≤ 505 := by rw [hp.out, List.length_append]; have := HLO.out y k; omega
              have y0 : (0 : Int) ≤ (k : Int) := by omega
              by_cases hkt : k < 5
              · have y1 : (k : Int) < 5 := by omega
                have hk20 : k ≤ 20 := by omega
                have hS := HSO.out y k
                rw [show ((X : Int)).toNat = X from rfl] at hS
                have hbit : (bits BinOp.and IntKind.i64 ((X : Int) / 2 ^ k) 1 == 1) = bitB X k := bit_test X k
                cases hB : bitB X k with
                | false =>
                  rw [hB] at hbit hS
                  have HY : Hid (q ++ grwOne (X : Int) y (k + 1) = p) := Lib.hid (by rw [hS, hp.out]; rfl)
                  clear hB hS
                  go_wp2_with fail
                  go_roundw
                  case rel => exact ⟨k + 1, _, by omega, by go_num, Lib.hid HY.out.symm, HO, HB⟩
                  case measure => simp [intOf]; omega
                | true =>
                  rw [hB] at hbit hS
                  have HY : Hid (q ++ grwOne (X : Int) y (k + 1) = p ++ [bits .or .i64 y (2 ^ k)]) := Lib.hid (by rw [hS, hp.out]; simp)
                  have hwk : IntKind.i64.wrap (2 ^ k) = 2 ^ k := by rw [IntWalk.i64_left]; exact wrap_pow k (by omega)
                  have hor := HO.out
                  clear hB hS
                  go_wp2_with fail
                  refine wp_region_noPanic ?_
                  refine wp_region_held_drew (S := (fun w' => w'.cell? (b.add i) = some (.int .i64 y) ∧ Below w.heap.size w w')) (by kernel_rfl) ?_ (fun hHeld => ?_)
                  · ((try dsimp only); exact ⟨((HB.out.drew).cell (World.block_lt_of_cell? _ _ hb)).trans hb, HB.out.drew⟩)
                  refine wpAnyH_take (i := 0) (v := ?_) rfl (by kernel_rfl) (by kernel_rfl) (by kernel_rfl) (fun _ _ _ h => h) (Or.inl ⟨by rfl, ?_⟩) (by assumption) ?_
                  rotate_left
                  · (intro w hSw; (try dsimp only at hSw); go_simp; (try with_reducible rfl))
                  (try simp only [Act.put, List.getElem_toArray, List.getElem_cons_zero, List.setIfInBounds_toArray, List.set_cons_zero, List.set_cons_succ])
                  refine wpAnyH_take (i := 1) (v := ?_) rfl (by kernel_rfl) (by kernel_rfl) (by kernel_rfl) (fun _ _ _ h => h) (Or.inl ⟨by rfl, ?_⟩) (by assumption) ?_
                  rotate_left
                  · (intro w hSw; (try dsimp only at hSw); go_simp; (try with_reducible rfl))
                  (try simp only [Act.put, List.getElem_toArray, List.getElem_cons_succ, List.getElem_cons_zero, List.setIfInBounds_toArray, List.set_cons_zero, List.set_cons_succ])
                  refine wpAnyH_take (i := 2) (v := ?_) rfl (by kernel_rfl) (by kernel_rfl) (by kernel_rfl) (fun _ _ _ h => h) (Or.inl ⟨by rfl, ?_⟩) (by assumption) ?_
                  rotate_left
                  · (intro w hSw; (try dsimp only at hSw); go_simp; (try with_reducible rfl))
                  (try simp only [Act.put, List.getElem_toArray, List.getElem_cons_succ, List.getElem_cons_zero, List.setIfInBounds_toArray, List.set_cons_zero, List.set_cons_succ])
                  refine wpAnyH_take (i := 3) (v := ?_) rfl (by kernel_rfl) (by kernel_rfl) (by kernel_rfl) (fun _ _ _ h => h) (Or.inl ⟨by rfl, ?_⟩) (by assumption) ?_
                  rotate_left
                  · (intro w hSw; (try dsimp only at hSw); go_simp; (try with_reducible rfl))
                  (try simp only [Act.put, List.getElem_toArray, List.getElem_cons_succ, List.getElem_cons_zero, List.setIfInBounds_toArray, List.set_cons_zero, List.set_cons_succ])
                  refine wpAnyH_take (i := 4) (v := ?_) rfl (by kernel_rfl) (by kernel_rfl) (by kernel_rfl) (fun _ _ _ h => h) (Or.inl ⟨by rfl, ?_⟩) (by assumption) ?_
                  rotate_left
                  · (intro w hSw; (try dsimp only at hSw); go_simp; (try with_reducible rfl))
                  (try simp only [Act.put, List.getElem_toArray, List.getElem_cons_succ, List.getElem_cons_zero, List.setIfInBounds_toArray, List.set_cons_zero, List.set_cons_succ])
                  refine wpAnyH_take (i := 5) (v := ?_) rfl (by kernel_rfl) (by kernel_rfl) (by kernel_rfl) (fun _ _ _ h => h) (Or.inl ⟨by rfl, ?_⟩) (by assumption) ?_
                  rotate_left
                  · (intro w hSw; (try dsimp only at hSw); go_simp; (try with_reducible rfl))
                  (try simp only [Act.put, List.getElem_toArray, List.getElem_cons_succ, List.getElem_cons_zero, List.setIfInBounds_toArray, List.set_cons_zero, List.set_cons_succ])
                  refine wpAnyH_take (i := 6) (v := ?_) rfl (by kernel_rfl) (by kernel_rfl) (by kernel_rfl) (fun _ _ _ h => h) (Or.inl ⟨by rfl, ?_⟩) (by assumption) ?_
                  rotate_left
                  · (intro w hSw; (try dsimp only at hSw); go_simp; (try with_reducible rfl))
                  (try simp only [Act.put, List.getElem_toArray, List.getElem_cons_succ, List.getElem_cons_zero, List.setIfInBounds_toArray, List.set_cons_zero, List.set_cons_succ])
                  refine wpAnyH_take (i := 7) (v := ?_) rfl (by kernel_rfl) (by kernel_rfl) (by kernel_rfl) (fun _ _ _ h => h) (Or.inl ⟨by rfl, ?_⟩) (by assumption) ?_
                  rotate_left
                  · (intro w hSw; (try dsimp only at hSw); go_simp; (try with_reducible rfl))
                  (try simp only [Act.put, List.getElem_toArray, List.getElem_cons_succ, List.getElem_cons_zero, List.setIfInBounds_toArray, List.set_cons_zero, List.set_cons_succ])
                  have BA := Lib.hid (HB.out.drew.alloc HB.out.drew.size (.cells #[.int .i64 (bits .or .i64 y (2 ^ k))] 3))
                  refine wpAnyH_ready (rs := [8]) (by kernel_rfl) (by simp) (AllReadyH.cons rfl (fun K hK => ?_) AllReadyH.nil)
                  go_simp
                  refine hK.out _ _ ?_ (fun hHeld => ?_)
                  · ((try dsimp only); exact ⟨((BA.out).cell (World.block_lt_of_cell? _ _ hb)).trans hb, BA.out⟩)
                  clear hK K
                  (try simp only [Act.put, List.getElem_toArray, List.getElem_cons_succ, List.getElem_cons_zero, List.setIfInBounds_toArray, List.set_cons_zero, List.set_cons_succ])
                  refine wpAnyH_ready (rs := [9]) (by kernel_rfl) (by simp) (AllReadyH.cons rfl (fun K hK => ?_) AllReadyH.nil)
                  (refine step_append_lies _ (by rfl) _ _ _ (by rfl) w.heap.size 3 i0 (.int .i64 0) 1 8 Try.underlying24 HI.out.1 HI.out.2.1 HI.out.2.2.1 HI.out.2.2.2 rfl (by decide) _ _ _ (by rfl) (World.ownsRow.alloc (w := w4.drew) hor _) ⟨w4.heap.size, 0, none⟩ 1 1 [.int .i64 (bits .or .i64 y (2 ^ k))] (by rfl) (by rfl) (cell_one_new _ _ _) (one_i64 _) (by omega) (by unfold maxLen; omega) (by omega) (by simp; have := HB.out.size; omega) (w4.heap.size + 1) (by simp) ?_; intro gg gcap w5 hown5 hgrow5 hat hltg; have HB5 := Lib.hid (BA.out.grown hgrow5 (by simp; have := HB.out.size; omega) (fun g hg => (hor.lt g hg).1)); have HO5 := Lib.hid (OwnI.snoc hown5); clear hown5 hgrow5 hat hltg)
                  (try (go_wp2_with fail))
                  refine hK.out _ _ ?_ (fun hHeld => ?_)
                  · ((try dsimp only); exact ⟨((HB5.out).cell (World.block_lt_of_cell? _ _ hb)).trans hb, HB5.out⟩)
                  clear hK K
                  (try simp only [Act.put, List.getElem_toArray, List.getElem_cons_succ, List.getElem_cons_zero, List.setIfInBounds_toArray, List.set_cons_zero, List.set_cons_succ])
                  refine wpAnyH_take (i := 10) (v := ?_) rfl (by kernel_rfl) (by kernel_rfl) (by kernel_rfl) (fun _ _ _ h => h) (Or.inl ⟨by rfl, ?_⟩) (by assumption) ?_
                  rotate_left
                  · (intro w hSw; (try dsimp only at hSw); go_simp; (try with_reducible rfl))
                  (try simp only [Act.put, List.getElem_toArray, List.getElem_cons_succ, List.getElem_cons_zero, List.setIfInBounds_toArray, List.set_cons_zero, List.set_cons_succ])
                  refine wpAnyH_done (by kernel_rfl) ?_ _
                  refine NoPanic.normal ?_
                  clear hHeld hor
                  go_wp2_with fail
                  go_roundw
                  case rel => exact ⟨k + 1, _, by omega, by go_num, Lib.hid HY.out.symm, HO5, HB5⟩
                  case measure => simp [intOf]; omega
              · obtain rfl : k = 5 := by omega
                go_wp2_with fail
                go_roundw
                case rel => exact ⟨i + 1, _, by omega, by go_num, Lib.hid (by rw [HX.out]; exact hp.out), HO, HB⟩
                case measure => simp [intOf]; omega
        · obtain rfl : i = L.length := by omega
          obtain ⟨ao, co, rfl, hao⟩ := HO.out.read
          have HAO := Lib.hid hao
          have HE2 : Hid (grwL L (X : Int) = minS (ddTo q q.length)) := Lib.hid (by rw [HE.out, ← hq.out])
          have HO1 : Hid (OwnI (w3.alloc (.cells #[] 3)) w.heap.size (.slice (some ⟨w3.heap.size, 0, none⟩) 0 0) []) := Lib.hid (OwnI.made (World.ownsRow_made w3 #[] 0 HB.out.size (by unfold maxLen; omega) rfl))
          have HB1 := Lib.hid (HB.out.alloc HB.out.size (.cells #[] 3))
          have HK1 := Lib.hid ((Below.refl w3.heap.size w3).alloc (Nat.le_refl _) (.cells #[] 3))
          have HW3 := Lib.hid HB.out.size
          clear hao HO HB HE hq
          go_wp2_with fail
          go_loopw [8, 9] (fun lv jv wr => ∃ (j : Nat) (d : List Int), j ≤ q.length ∧ jv = .int .i64 (j : Int) ∧ Hid (d = ddTo q j) ∧ Hid (OwnI wr w.heap.size lv d) ∧ Hid (Below w.heap.size w wr) ∧ Hid (Below w3.heap.size w3 wr)) (fun _ jv _ => q.length - (intOf jv).toNat)
          case atStart => exact ⟨0, [], by omega, rfl, Lib.hid rfl, HO1, HB1, HK1⟩
          case round =>
            clear HO1 HB1 HK1
            obtain ⟨j, d, hj, rfl, hd, HO, HB, HK⟩ := hrel
            obtain ⟨w4, hw4⟩ : ∃ w', w' = wr := ⟨_, rfl⟩
            rw [← hw4] at HO HB HK ⊢
            clear hw4
            have y0 : (0 : Int) ≤ (j : Int) := by omega
            have hdl : d.length ≤ 505 := by rw [hd.out]; have := ddTo_len q j; omega
            by_cases hjt : j < q.length
            · obtain ⟨b, rfl, hb⟩ := HAO.out j hjt
              have hb4 := (HK.out.cell (World.block_lt_of_cell? _ _ hb)).trans hb
              have y1 : (j : Int) < (q.length : Int) := by omega
              have HD : Hid (ddTo q (j + 1) = put4 d (q.getD j 0)) := Lib.hid (by rw [hd.out]; rfl)
              have HG := HD
              rw [← get_getD q j hjt] at HG
              obtain ⟨y, hy⟩ : ∃ y, y = q[j] := ⟨_, rfl⟩
              rw [← hy] at hb4 HG
              clear hy hb HD
              go_wp2_with fail
              refine (HP.out _ d y _ HO.out HB.out.size (by omega)).mono ?_
              rintro e' w5 ⟨v5, rfl, o5, b5⟩
              have HB5 := Lib.hid (HB.out.trans (b5.mono HB.out.size))
              have HK5 := Lib.hid (HK.out.trans (b5.mono HK.out.size))
              have HO5 := Lib.hid o5
              clear o5 b5 hb4
              go_wp2_with fail
              go_roundw
              case rel => exact ⟨j + 1, _, by omega, by go_num, Lib.hid HG.out.symm, HO5, HB5, HK5⟩
              case measure => simp [intOf]; omega
            · obtain rfl : j = q.length := by omega
              have HM := Lib.hid (fun v w' (h : ReadI w' v d) => minimalSets_any v d w' h (by omega))
              have HE3 : Hid (grwL L (X : Int) = minS d) := Lib.hid (by rw [HE2.out, hd.out])
              go_wp2_with fail
              refine (HM.out _ _ HO.out.read).mono ?_
              rintro e' w5 ⟨v5, rfl, o5, b5⟩
              have hb5 := HB.out.trans (b5.mono HB.out.size)
              have o6 := o5.base HB.out.size
              clear o5 b5
              go_wp2_with fail
              go_ret
              exact ⟨_, rfl, by rw [HE3.out]; exact o6, hb5⟩
end
end Go.Proofs.Ytnbjcelfdppkcab
namespace Go.Proofs.Ytnbjcelfdppkcab
open Go.RowKit

theorem minS_le (l : List Int) : (minS l).length ≤ l.length := by
  unfold minS
  split
  · exact mnTo_len l _
  · exact Nat.zero_le _
theorem grwL_len (l : List Int) (e : Int) : (grwL l e).length ≤ 500 := by
  unfold grwL
  split
  · rename_i h
    rw [Bool.and_eq_true] at h
    have h1 := h.1
    unfold setsOk at h1
    rw [Bool.and_eq_true, decide_eq_true_iff] at h1
    have h2 := minS_le (ddTo (grwTo l e l.length) (grwTo l e l.length).length)
    have h3 := ddTo_len (grwTo l e l.length) (grwTo l e l.length).length
    have h4 := grwTo_len l e l.length
    omega
  · exact Nat.zero_le _
theorem trTo_len (E : List Int) : ∀ i, (trTo E i).length ≤ 500
  | 0 => by show ([0] : List Int).length ≤ 500; decide
  | i + 1 => grwL_len _ _
theorem nil_own (w wr : World) (hb : Below w.heap.size w wr) : OwnI (wr.alloc (.cells #[] 3)) w.heap.size (.slice (some ⟨wr.heap.size, 0, none⟩) 0 0) [] ∧ Below w.heap.size w (wr.alloc (.cells #[] 3)) :=
  ⟨OwnI.made (World.ownsRow_made wr #[] 0 hb.size (by unfold maxLen; omega) rfl), hb.alloc hb.size _⟩
section
set_option maxRecDepth 20000
set_option maxHeartbeats 3200000
theorem trans9_any (v : Value) (E : List Int) (n : Int) (w : World) (hr : ReadI w v E) (hl : E.length ≤ 1048576) :
    Calls Try.prog 8 #[v, .int .i64 n] w (RetI (trL E n) w) := by
  have HIN := Lib.hid (fun w' => in_any n 0 5 w')
  have HIA := Lib.hid (fun x w' => isA_any n x w')
  have HG := Lib.hid (fun (v : Value) (l : List Int) (e : Int) w' (h : ReadI w' v l) (hl : l.length ≤ 1048576) => grow9_any v l e w' h hl)
  obtain ⟨a, cap, rfl, ha⟩ := hr
  have HA := Lib.hid ha
  clear ha
  have ho0 : OwnI (w.alloc (.cells #[.int .i64 0] 3)) w.heap.size (.slice (some ⟨w.heap.size, 0, none⟩) 1 1) [0] := World.ownsRow_lit w #[.int .i64 0] 1 (Nat.le_refl _) (by unfold maxLen; omega) rfl
  have hb0 : Below w.heap.size w (w.alloc (.cells #[.int .i64 0] 3)) := (Below.refl _ _).alloc (Nat.le_refl _) _
  have HN0 : Hid (OwnI ((w.alloc (.cells #[.int .i64 0] 3)).alloc (.cells #[] 3)) w.heap.size (.slice (some ⟨w.heap.size + 1, 0, none⟩) 0 0) [] ∧ Below w.heap.size w ((w.alloc (.cells #[.int .i64 0] 3)).alloc (.cells #[] 3))) := Lib.hid (by have h := nil_own w _ hb0; rw [World.size_alloc] at h; exact h)
  have HO0 := Lib.hid ho0
  have HB0 := Lib.hid hb0
  clear ho0 hb0
  by_cases hn : 0 ≤ n ∧ n ≤ 5
  · rw [decide_eq_true hn] at HIN
    by_cases h100 : E.length ≤ 100
    · have hgt : ¬ ((100 : Int) < (E.length : Int)) := by omega
      have HE : Hid (E.all (isA n) = true → trL E n = trTo E E.length) := Lib.hid (fun h => by unfold trL; rw [h, decide_eq_true (show (0 ≤ n ∧ n ≤ 5) ∧ E.length ≤ 100 from ⟨hn, h100⟩)]; rfl)
      have HF : Hid (E.all (isA n) = false → trL E n = []) := Lib.hid (fun h => by unfold trL; rw [h, Bool.and_false]; rfl)
      clear hn
      go_enter Try.func8, Try.ntmps8
      go_wp2_with fail
      refine (HIN.out _).mono ?_
      rintro e' w' ⟨rfl, rfl⟩
      go_wp2_with fail
      go_loopw [5, 6] (fun ov iv wr => ∃ (i : Nat) (q : List Int), i ≤ E.length ∧ iv = .int .i64 (i : Int) ∧ Hid (q = trTo E i ∧ (E.take i).all (isA n) = true) ∧ Hid (OwnI wr w.heap.size ov q) ∧ Hid (Below w.heap.size w wr)) (fun _ iv _ => E.length - (intOf iv).toNat)
      case atStart => exact ⟨0, [0], by omega, rfl, Lib.hid ⟨rfl, rfl⟩, HO0, HB0⟩
      case round =>
        clear HO0 HB0 HN0
        obtain ⟨i, q, hi, rfl, hq, HO, HB⟩ := hrel
        obtain ⟨w3, hw3⟩ : ∃ w', w' = wr := ⟨_, rfl⟩
        rw [← hw3] at HO HB ⊢
        clear hw3
        have z0 : (0 : Int) ≤ (i : Int) := by omega
        have hql : q.length ≤ 1048576 := by rw [hq.out.1]; have := trTo_len E i; omega
        by_cases hlt : i < E.length
        · obtain ⟨b, rfl, hb⟩ := HA.out i hlt
          have z1 : (i : Int) < (E.length : Int) := by omega
          have HOK := Lib.hid (fun h => all_snoc (p := isA n) hlt hq.out.2 h)
          have HNO := Lib.hid (fun h => all_not (p := isA n) hlt h)
          have HS : Hid (trTo E (i + 1) = grwL q E[i]) := Lib.hid (by rw [hq.out.1, get_getD E i hlt]; rfl)
          obtain ⟨y, hy⟩ : ∃ y, y = E[i] := ⟨_, rfl⟩
          rw [← hy] at hb HOK HNO HS
          have HQ := Lib.hid (HIA.out y)
          have hb3 := (HB.out.cell (World.block_lt_of_cell? _ _ hb)).trans hb
          clear hy hq hb
          cases hv : isA n y with
          | true =>
            rw [hv] at HQ
            have HX := Lib.hid (HOK.out hv)
            clear hv
            go_wp2_with fail
            refine (HQ.out _).mono ?_
            rintro e' w' ⟨rfl, rfl⟩
            go_wp2_with fail
            refine (HG.out _ q y _ HO.out.read hql).mono ?_
            rintro e' w5 ⟨v5, rfl, o5, b5⟩
            have HB5 := Lib.hid (HB.out.trans (b5.mono HB.out.size))
            have HO5 := Lib.hid (o5.base HB.out.size)
            clear o5 b5 hb3
            go_wp2_with fail
            go_roundw
            case rel => exact ⟨i + 1, _, by omega, by go_num, Lib.hid ⟨HS.out.symm, HX.out⟩, HO5, HB5⟩
            case measure => simp [intOf]; omega
          | false =>
            rw [hv] at HQ
            have HX := Lib.hid (HF.out (HNO.out hv))
            have HN := Lib.hid (nil_own w _ HB.out)
            clear hv
            go_wp2_with fail
            refine (HQ.out _).mono ?_
            rintro e' w' ⟨rfl, rfl⟩
            go_wp2_with fail
            go_ret
            exact ⟨_, rfl, by rw [HX.out]; exact HN.out.1, HN.out.2⟩
        · obtain rfl : i = E.length := by omega
          have HX : Hid (trL E n = q) := Lib.hid (by rw [HE.out (by have := hq.out.2; rwa [List.take_length] at this), hq.out.1])
          clear hq
          go_wp2_with fail
          go_ret
          exact ⟨_, rfl, by rw [HX.out]; exact HO.out, HB.out⟩
    · have hgt : (100 : Int) < (E.length : Int) := by omega
      have HF : Hid (trL E n = []) := Lib.hid (by unfold trL; rw [decide_eq_false (fun h => h100 h.2), Bool.false_and]; rfl)
      clear hn
      go_enter Try.func8, Try.ntmps8
      go_wp2_with fail
      refine (HIN.out _).mono ?_
      rintro e' w' ⟨rfl, rfl⟩
      go_wp2_with fail
      go_ret
      exact ⟨_, rfl, by rw [HF.out]; exact HN0.out.1, HN0.out.2⟩
  · have HF : Hid (trL E n = []) := Lib.hid (by unfold trL; rw [decide_eq_false (fun h => hn h.1), Bool.false_and]; rfl)
    rw [decide_eq_false hn] at HIN
    clear hn
    go_enter Try.func8, Try.ntmps8
    go_wp2_with fail
    refine (HIN.out _).mono ?_
    rintro e' w' ⟨rfl, rfl⟩
    go_wp2_with fail
    go_ret
    exact ⟨_, rfl, by rw [HF.out]; exact HN0.out.1, HN0.out.2⟩
end
end Go.Proofs.Ytnbjcelfdppkcab
namespace Go.Proofs.Ytnbjcelfdppkcab
open Go.RowKit

set_option maxHeartbeats 800000 in
theorem members_any (X : Nat) (hX : X < 32) (w : World) :
    Calls Try.prog 56 #[.int .i64 (X : Int)] w (RetI (mems (X : Int)) w) := by
  obtain ⟨i0, hi, hz0, hz1, hz2⟩ := info_parts info3i
  have HI : Hid (_ ∧ _ ∧ _ ∧ _) := Lib.hid ⟨hi, hz0, hz1, hz2⟩
  clear hi hz0 hz1 hz2
  have he : mems (X : Int) = memN X 5 := by unfold mems; rw [if_pos (by omega)]; rfl
  have HE := Lib.hid he
  clear he
  have HH := Lib.hid (fun (k : Nat) (hk : k ≤ 62) (w : World) => has_any X k hk w)
  go_enter Try.func56, Try.ntmps56
  go_wp2_with (at_make; refine wpList_make_own _ rfl _ _ 24 rfl w.heap.size 3 i0 (.int .i64 0) 1 Try.underlying24 HI.out.1 HI.out.2.1 HI.out.2.2.1 .i64 .i64 _ 5 rfl rfl (by omega) (by rw [HI.out.2.2.2]; omega) (by unfold maxLen; omega) (Nat.le_refl _) ?_; intro w0 hown0 hgrow0)
  have hb0 := (Below.refl w.heap.size w).grown hgrow0 (Nat.le_refl _) (by simp)
  have hown := OwnI.made hown0
  clear hown0 hgrow0
  go_loopw [3, 4] (fun ov iv wr => ∃ (k : Nat) (l : List Int), k ≤ 5 ∧ iv = .int .i64 (k : Int) ∧ Hid (l = memN X k) ∧ OwnI wr w.heap.size ov l ∧ Below w.heap.size w wr) (fun _ iv _ => (5 - intOf iv).toNat)
  case atStart => exact ⟨0, [], by omega, rfl, Lib.hid rfl, hown, hb0⟩
  case round =>
    obtain ⟨k, l, hk, rfl, hl, ho, hb⟩ := hrel
    by_cases hlt : k < 5
    · have hll : l.length ≤ 5 := by rw [hl.out]; have := memN_len X k; omega
      by_cases hB : bitB X k = true
      · go_wp2_with fail
        refine (HH.out k (by omega) _).mono ?_
        rintro e w' ⟨rfl, rfl⟩
        go_wp2_with (at_builtin; refine wpList_append_own _ rfl _ _ 24 rfl w.heap.size 3 i0 (.int .i64 0) 1 8 Try.underlying24 HI.out.1 HI.out.2.1 HI.out.2.2.1 HI.out.2.2.2 rfl (by decide) _ _ _ rfl (World.ownsRow.alloc ho _) ⟨wr.heap.size, 0, none⟩ 1 1 [.int .i64 (k : Int)] rfl rfl (cell_one_new _ _ _) (one_i64 _) (by unfold maxLen; omega) (by omega) (le_alloc hb (Nat.le_refl _) _) ?_; intro v' w1 hown' hgrow _)
        have ho' := OwnI.snoc hown'
        have hb' := (hb.alloc hb.size (.cells #[.int .i64 (k : Int)] 3)).grown hgrow (by simp; have := hb.size; omega) (fun k hk => (OwnI.lt ho k hk).1)
        clear hown' hgrow
        go_wp2_with fail
        go_roundw
        case rel => exact ⟨k + 1, _, by omega, by go_num, Lib.hid (by rw [memN_succ, if_pos hB, ← hl.out]), ho', hb'⟩
        case measure => simp [intOf]; omega
      · have hB2 : bitB X k = false := by simpa using hB
        go_wp2_with fail
        refine (HH.out k (by omega) _).mono ?_
        rintro e w' ⟨rfl, rfl⟩
        go_wp2_with fail
        go_roundw
        case rel => exact ⟨k + 1, _, by omega, by go_num, Lib.hid (by rw [memN_succ, if_neg hB, ← hl.out]), ho, hb⟩
        case measure => simp [intOf]; omega
    · obtain rfl : k = 5 := by omega
      go_wp2_with fail
      go_ret
      exact ⟨_, rfl, by rw [HE.out, ← hl.out]; exact ho, hb⟩
theorem OwnI.none (w : World) (B : Nat) : OwnI w B (.slice .none 0 0) [] := World.ownsRow_nil _ _ _ _
end Go.Proofs.Ytnbjcelfdppkcab
namespace Go.Proofs.Ytnbjcelfdppkcab
open Go.RowKit

theorem hitsP_any (a b : Int) (w : World) :
    Calls Try.prog 26 #[.int .i64 a, .int .i64 b] w fun e w' => e = .returned (.bool (bits .and .i64 a b != 0)) ∧ w = w' := by
  go_enter Try.func26, Try.ntmps26
  go_wp2_with fail
  go_ret
  exact ⟨rfl, rfl⟩
theorem hits_swap (x y : Int) : (bits .and .i64 x y != 0) = hitI y x := by
  unfold hitI
  rw [and_swap]
  rfl
set_option maxHeartbeats 1600000 in
theorem implHits_any (v : Value) (E : List Int) (x : Int) (w : World) (hr : ReadI w v E) (hl : E.length ≤ 1048576) (hbd : I64s E) (h0 : -9223372036854775808 ≤ x) (h1 : x ≤ 9223372036854775807) :
    Calls Try.prog 9 #[v, .int .i64 x] w fun e w' => e = .returned (.bool (hitsA E x)) ∧ w = w' := by
  obtain ⟨a, cap, rfl, ha⟩ := hr
  have HA := Lib.hid ha
  have HV := Lib.hid (fun x h0 h1 => isValid_any x h0 h1 w)
  have HVX := Lib.hid (isValid_any x h0 h1 w)
  have HBD := Lib.hid hbd
  have HH := Lib.hid (fun y => hitsP_any x y w)
  clear ha hbd
  go_enter Try.func9, Try.ntmps9
  go_wp2_with fail
  go_loop [11] (fun iv => ∃ k : Nat, k ≤ E.length ∧ iv = .int .i64 (k : Int) ∧ Hid ((E.take k).all (fun e => valB e && hitI e x) = true)) (fun iv => E.length - (intOf iv).toNat)
  case atStart => exact ⟨0, by omega, rfl, Lib.hid rfl⟩
  case round =>
    obtain ⟨k, hk, rfl, hall⟩ := hrel
    by_cases hlt : k < E.length
    · obtain ⟨b, rfl, hb⟩ := HA.out k hlt
      have z0 : (0 : Int) ≤ (k : Int) := by omega
      have z1 : (k : Int) < (E.length : Int) := by omega
      have HOK := Lib.hid (fun h => all_snoc (p := fun e => valB e && hitI e x) hlt hall.out h)
      have HNO := Lib.hid (fun h => all_not (p := fun e => valB e && hitI e x) hlt h)
      have HBK := Lib.hid (HBD.out _ (List.getElem_mem hlt))
      obtain ⟨y, hy⟩ : ∃ y, y = E[k] := ⟨_, rfl⟩
      rw [← hy] at hb HOK HNO HBK
      have HQ := Lib.hid (HV.out y HBK.out.1 HBK.out.2)
      have HP := Lib.hid (HH.out y)
      rw [hits_swap] at HP
      clear hy
      cases hv : valB y with
      | true =>
        rw [hv] at HQ
        cases hpb : hitI y x with
        | true =>
          rw [hpb] at HP
          have HX := Lib.hid (HOK.out (by show (valB y && hitI y x) = true; rw [hv, hpb]; rfl))
          clear hv hpb
          go_wp2_with fail
          refine HQ.out.mono ?_
          rintro e w' ⟨rfl, rfl⟩
          go_wp2_with fail
          refine HP.out.mono ?_
          rintro e w' ⟨rfl, rfl⟩
          go_wp2_with fail
          go_round
          case rel => exact ⟨k + 1, by omega, by go_num, HX⟩
          case measure => simp [intOf]; omega
        | false =>
          rw [hpb] at HP
          have HX := Lib.hid (HNO.out (by show (valB y && hitI y x) = false; rw [hv, hpb]; rfl))
          clear hv hpb
          go_wp2_with fail
          refine HQ.out.mono ?_
          rintro e w' ⟨rfl, rfl⟩
          go_wp2_with fail
          refine HP.out.mono ?_
          rintro e w' ⟨rfl, rfl⟩
          go_wp2_with fail
          go_ret
          exact ⟨ret_b (by unfold hitsA; rw [HX.out]; rfl), rfl⟩
      | false =>
        rw [hv] at HQ
        have HX := Lib.hid (HNO.out (by show (valB y && _) = false; rw [hv]; rfl))
        clear hv
        go_wp2_with fail
        refine HQ.out.mono ?_
        rintro e w' ⟨rfl, rfl⟩
        go_wp2_with fail
        go_ret
        exact ⟨ret_b (by unfold hitsA; rw [HX.out]; rfl), rfl⟩
    · obtain rfl : k = E.length := by omega
      have HX : Hid (hitsA E x = valB x) := Lib.hid (by unfold hitsA; rw [List.take_length] at hall; rw [hall.out]; rfl)
      clear hall hlt
      go_wp2_with fail
      refine HVX.out.mono ?_
      rintro e w' ⟨rfl, rfl⟩
      go_wp2_with fail
      go_ret
      exact ⟨ret_b HX.out, rfl⟩
theorem or_shl9 : ∀ (y : Fin 32) (j : Fin 5), bits .or .i64 ((y.val : Nat) : Int) (wrap64 (2 ^ j.val)) = bits .or .i64 ((y.val : Nat) : Int) (2 ^ j.val) := by decide +kernel
theorem mems_lt9 : ∀ L : Fin 32, ∀ y ∈ mems ((L.val : Nat) : Int), 0 ≤ y ∧ y < 5 := by decide +kernel
theorem mems_at9 {E k : Nat} (hE : E < 32) (h : k < (mems (E : Int)).length) : ∃ j : Nat, (mems (E : Int))[k] = (j : Int) ∧ j < 5 := by
  obtain ⟨h1, h2⟩ := mems_lt9 ⟨E, hE⟩ _ (List.getElem_mem h)
  exact ⟨(mems (E : Int))[k].toNat, by omega, by omega⟩
theorem add_block9 (p : Addr) (k : Nat) : (p.add k).block = p.block := by unfold Addr.add; split <;> rfl
theorem cell_grown9 {w w' : World} {g : Nat} {p : Addr} {v : Value} (h : w.grownBy w' (some g)) (hc : w.cell? p = some v) (hne : p.block ≠ g) : w'.cell? p = some v :=
  (World.cell?_of_block (h.block p.block (World.block_lt_of_cell? _ _ hc) (fun e => hne (Option.some.inj e)))).trans hc
theorem grown_trans9 {w w' w'' : World} {g : Nat} (h : w.grownBy w' (some g)) (h' : w'.grownBy w'' (some g)) : w.grownBy w'' (some g) :=
  ⟨h'.os.trans h.os, h'.tape.trans h.tape, h'.output.trans h.output, Nat.le_trans h.size h'.size, fun k hk hne => (h'.block k (Nat.lt_of_lt_of_le hk h.size) hne).trans (h.block k hk hne)⟩
theorem grown_alloc9 (w : World) (o : Obj) (g : Nat) : w.grownBy (w.alloc o) (some g) := ⟨rfl, rfl, rfl, by rw [World.size_alloc]; omega, fun k hk _ => Below.heap_alloc w o k hk⟩
set_option maxHeartbeats 1600000 in
theorem withEach_any (Y E : Nat) (hY : Y < 32) (hE : E < 32) (w : World) :
    Calls Try.prog 33 #[.int .i64 (Y : Int), .int .i64 (E : Int)] w (RetI (grwOne (E : Int) (Y : Int) 5) w) := by
  obtain ⟨i0, hi, hz0, hz1, hz2⟩ := info_parts info3i
  have HI : Hid (_ ∧ _ ∧ _ ∧ _) := Lib.hid ⟨hi, hz0, hz1, hz2⟩
  clear hi hz0 hz1 hz2
  have HM := Lib.hid (members_any E hE)
  have HG := Lib.hid (grwOne_mems hE (Y : Int))
  have HLN := Lib.hid (mems_len (E : Int))
  obtain ⟨M, hM⟩ : ∃ M, M = mems (E : Int) := ⟨_, rfl⟩
  have HO9 := Lib.hid (fun j => or_shl9 ⟨Y, hY⟩ j)
  have HAT : Hid (∀ k (h : k < M.length), ∃ j : Nat, M[k] = (j : Int) ∧ j < 5) := Lib.hid (by intro k h; subst hM; exact mems_at9 hE h)
  rw [← hM] at HM HG HLN
  clear hM
  go_enter Try.func33, Try.ntmps33
  go_wp2_with (at_make; refine wpList_make_own _ rfl _ _ 24 rfl w.heap.size 3 i0 (.int .i64 0) 1 Try.underlying24 HI.out.1 HI.out.2.1 HI.out.2.2.1 .i64 .i64 _ 5 rfl rfl (by omega) (by rw [HI.out.2.2.2]; omega) (by unfold maxLen; omega) (Nat.le_refl _) ?_; intro w0 hown0 hgrow0)
  have hb0 := (Below.refl w.heap.size w).grown hgrow0 (Nat.le_refl _) (by simp)
  have hown := OwnI.made hown0
  clear hown0 hgrow0
  refine (HM.out _).mono ?_
  rintro e w1 ⟨v1, rfl, ho1, hb1⟩
  obtain ⟨va, vc, hv1, hcells⟩ := ho1.read
  subst hv1
  have hown1 := hown.kept hb1 (fun k hk => (OwnI.lt hown k hk).2)
  have hbb := hb0.trans (hb1.mono hb0.size)
  have HC := Lib.hid hcells
  have HNE : Hid (∀ x, va = some x → x.block ≠ w.heap.size) := Lib.hid (fun x hx => by
    subst hx
    have h1 := (OwnI.lt ho1 x.block rfl).1
    have h2 := (OwnI.lt hown w.heap.size rfl).2
    omega)
  clear hcells ho1 hown hb0 hb1
  go_wp2_with fail
  go_loopw [5, 12] (fun ov iv wr => ∃ (k : Nat) (q : List Int), k ≤ M.length ∧ ov = .slice (some ⟨w.heap.size, 0, none⟩) k 5 ∧ iv = .int .i64 (k : Int) ∧ Hid (q = (M.take k).map fun j => bits .or .i64 (Y : Int) (2 ^ j.toNat)) ∧ Hid (OwnI wr w.heap.size ov q) ∧ Hid (Below w.heap.size w wr) ∧ Hid (w1.grownBy wr (some w.heap.size))) (fun _ iv _ => M.length - (intOf iv).toNat)
  case atStart => exact ⟨0, [], by omega, rfl, rfl, Lib.hid rfl, Lib.hid hown1, Lib.hid hbb, Lib.hid ⟨rfl, rfl, rfl, Nat.le_refl _, fun _ _ _ => rfl⟩⟩
  case round =>
    clear hown1 hbb
    obtain ⟨k, q, hk, rfl, rfl, hq, HO, HB, HGR⟩ := hrel
    obtain ⟨w3, hw3⟩ : ∃ w', w' = wr := ⟨_, rfl⟩
    rw [← hw3] at HO HB HGR ⊢
    clear hw3
    have z0 : (0 : Int) ≤ (k : Int) := by omega
    by_cases hlt : k < M.length
    · obtain ⟨j, hj, hj5⟩ := HAT.out k hlt
      obtain ⟨b, rfl, hb⟩ := HC.out k hlt
      rw [hj] at hb
      have z1 : (k : Int) < (M.length : Int) := by omega
      have z2 : (0 : Int) ≤ (j : Int) := by omega
      have HS : Hid ((M.take (k + 1)).map (fun j => bits .or .i64 (Y : Int) (2 ^ j.toNat)) = q ++ [bits .or .i64 (Y : Int) (2 ^ j)]) := Lib.hid (by rw [List.take_succ_eq_append_getElem hlt, List.map_append, ← hq.out, hj]; rfl)
      have HO2 := Lib.hid (HO9.out ⟨j, hj5⟩)
      have hql : q.length = k := by rw [hq.out, List.length_map, List.length_take]; omega
      have HQL := Lib.hid hql
      have HK5 : Hid (k + 1 ≤ 5) := Lib.hid (by have := HLN.out; omega)
      have hb3 := cell_grown9 HGR.out hb (by rw [add_block9]; exact HNE.out b rfl)
      have HLT := Lib.hid (OwnI.lt HO.out w.heap.size rfl)
      clear hj hb hq hql
      have hm5 := HLN.out
      go_wp2_with (at_builtin; refine wpList_append_fits _ rfl _ _ 24 rfl w.heap.size 3 i0 1 Try.underlying24 HI.out.1 HI.out.2.2.1 w.heap.size k 5 (intsV q) rfl (by have h := World.ownsRow.alloc HO.out (.cells #[.int .i64 (bits .or .i64 (Y : Int) (wrap64 (2 ^ j)))] 3); rw [HQL.out] at h; exact h) ⟨w3.heap.size, 0, none⟩ 1 1 [.int .i64 (bits .or .i64 (Y : Int) (wrap64 (2 ^ j)))] rfl rfl (cell_one_new _ _ _) (one_i64 _) HK5.out ?_; intro w4 hown' hgrow; have HO4 : Hid (OwnI w4 w.heap.size (.slice (some ⟨w.heap.size, 0, none⟩) (k + 1) 5) (q ++ [bits .or .i64 (Y : Int) (2 ^ j)])) := Lib.hid (by rw [HO2.out] at hown'; refine OwnI.snoc ?_; rw [HQL.out]; exact hown'); have HB4 : Hid (Below w.heap.size w w4) := Lib.hid ((HB.out.alloc HB.out.size _).grown hgrow (by rw [World.size_alloc]; have := HB.out.size; omega) (fun k hk => by cases hk; exact Nat.le_refl _)); have HG4 : Hid (w1.grownBy w4 (some w.heap.size)) := Lib.hid (grown_trans9 HGR.out (grown_trans9 (grown_alloc9 w3 _ _) hgrow)); clear hown' hgrow)
      go_roundw
      case rel => exact ⟨k + 1, _, by omega, rfl, by go_num, Lib.hid HS.out.symm, HO4, HB4, HG4⟩
      case measure => simp [intOf]; omega
    · obtain rfl : k = M.length := by omega
      have HE : Hid (grwOne (E : Int) (Y : Int) 5 = q) := Lib.hid (by rw [HG.out, hq.out, List.take_length])
      clear hq
      go_wp2_with fail
      go_ret
      exact ⟨_, rfl, by rw [HE.out]; exact HO.out, HB.out⟩
end Go.Proofs.Ytnbjcelfdppkcab
