/- The program's different records in order, by contract: the walk. Conditions: as stated. -/
import Derived.Test.YtnelddlbpdpndaaPrjD
namespace Go.Proofs.Ytnelddlbpdpndaa
open Go.RowKit

theorem RecAt.pad {w : World} {b : Nat} {r : List Int} (h : RecAt w b r) : ∃ a0 a1 a2 a3 a4 : Int, pad5 r = [a0, a1, a2, a3, a4] ∧ w.cell? ⟨b, 0, none⟩ = some (.int .i64 a0) ∧ w.cell? ⟨b, 1, none⟩ = some (.int .i64 a1) ∧ w.cell? ⟨b, 2, none⟩ = some (.int .i64 a2) ∧ w.cell? ⟨b, 3, none⟩ = some (.int .i64 a3) ∧ w.cell? ⟨b, 4, none⟩ = some (.int .i64 a4) :=
  ⟨_, _, _, _, _, rfl, (h 0 (by omega)).1, (h 1 (by omega)).1, (h 2 (by omega)).1, (h 3 (by omega)).1, (h 4 (by omega)).1⟩
/-- Two records are compared cell by cell. -/
theorem eqRecIn (a0 a1 a2 a3 a4 b0 b1 b2 b3 b4 : Int) (w : World) : (Op.equalIn 10000 60 (.agg #[.int .i64 a0, .int .i64 a1, .int .i64 a2, .int .i64 a3, .int .i64 a4]) (.agg #[.int .i64 b0, .int .i64 b1, .int .i64 b2, .int .i64 b3, .int .i64 b4])).run Try.prog w = .ok (decide ([a0, a1, a2, a3, a4] = [b0, b1, b2, b3, b4])) w := by
  have tu := Try.underlying3
  have ta := Try.isAgg3
  have tz := Try.sizeOf3
  rw [show (10000 : Nat) = 9999 + 1 from rfl, Op.equalIn]
  simp only [Sem.run_bind, run_underlying Try.underlying60, Result.andThen_ok]
  simp only [Std.Legacy.Range.forIn_eq_forIn_range', Std.Legacy.Range.size, Nat.sub_zero, Nat.add_sub_cancel, Nat.div_one, List.range'_succ, List.range'_zero, List.forIn_cons, List.forIn_nil]
  go_simp
  by_cases h0 : a0 = b0 <;> by_cases h1 : a1 = b1 <;> by_cases h2 : a2 = b2 <;> by_cases h3 : a3 = b3 <;> by_cases h4 : a4 = b4 <;> simp [h0, h1, h2, h3, h4]
theorem eqRec (a0 a1 a2 a3 a4 b0 b1 b2 b3 b4 : Int) (w : World) : (binOp .eql 60 (.agg #[.int .i64 a0, .int .i64 a1, .int .i64 a2, .int .i64 a3, .int .i64 a4]) (.agg #[.int .i64 b0, .int .i64 b1, .int .i64 b2, .int .i64 b3, .int .i64 b4])).run Try.prog w = .ok (.bool (decide ([a0, a1, a2, a3, a4] = [b0, b1, b2, b3, b4]))) w := by
  simp only [binOp, Op.equal, Op.maxDepth]
  simp [eqRecIn]
/-- A row that is being written: D at its head, l from place i on. -/
structure Mix (w : World) (g : Nat) (D l : List (Nat × List Int)) (i : Nat) : Prop where
  head : ∀ j, j < D.length → w.cell? ⟨g, j, none⟩ = some (.pointer (some ⟨(D.getD j (0, [])).1, 0, none⟩))
  tail : ∀ j, i ≤ j → j < l.length → w.cell? ⟨g, j, none⟩ = some (.pointer (some ⟨(l.getD j (0, [])).1, 0, none⟩))
  fz : ∀ j, j < l.length → w.frozen? ⟨g, j, none⟩ = false
  there : ∀ j, j < l.length → (w.cell? ⟨g, j, none⟩).isSome = true
theorem Mix.drewN {w : World} {g i : Nat} {D l : List (Nat × List Int)} (h : Mix w g D l i) (n : Nat) : Mix (w.drewN n) g D l i := ⟨h.head, h.tail, h.fz, h.there⟩
theorem Mix.next {w : World} {g i : Nat} {D l : List (Nat × List Int)} (h : Mix w g D l i) : Mix w g D l (i + 1) := ⟨h.head, fun j h1 h2 => h.tail j (by omega) h2, h.fz, h.there⟩
theorem Mix.store {w : World} {g i : Nat} {D l : List (Nat × List Int)} (h : Mix w g D l i) (hD : D.length ≤ i) (hi : i < l.length) : Mix (w.setCell ⟨g, D.length, none⟩ (.pointer (some ⟨(l.getD i (0, [])).1, 0, none⟩))) g (D ++ [l.getD i (0, [])]) l (i + 1) := by
  obtain ⟨u, hu⟩ := Option.isSome_iff_exists.1 (h.there D.length (by omega))
  refine ⟨fun j hj => ?_, fun j h1 h2 => ?_, fun j hj => ?_, fun j hj => ?_⟩
  · rw [List.length_append, List.length_singleton] at hj
    rw [getD_snoc _ _ _ _ hj]
    by_cases hjl : j < D.length
    · rw [if_pos hjl]
      exact (World.cell?_setCell_other _ _ _ _ (by intro e; simp only [Addr.mk.injEq] at e; omega)).trans (h.head j hjl)
    · rw [if_neg hjl]
      obtain rfl : j = D.length := by omega
      exact World.cell?_setCell_same _ _ _ hu
  · exact (World.cell?_setCell_other _ _ _ _ (by intro e; simp only [Addr.mk.injEq] at e; omega)).trans (h.tail j (by omega) h2)
  · rw [World.frozen?_setCell]; exact h.fz j hj
  · by_cases hjl : j = D.length
    · subst hjl; rw [World.cell?_setCell_same _ _ _ hu]; rfl
    · rw [World.cell?_setCell_other _ _ _ _ (by intro e; simp only [Addr.mk.injEq] at e; omega)]; exact h.there j hj
theorem wrap64_nat (L : Nat) (h : L ≤ 1048576) : IntKind.i64.wrap (L : Int) = (L : Int) := IntWalk.i64_in _ (by omega)
theorem grown_drewN {w w' : World} {row : Option Nat} (h : w.grownBy w' row) (n : Nat) : w.grownBy (w'.drewN n) row := ⟨h.os, h.tape, h.output, h.size, h.block⟩
theorem grown_setCell (w : World) (g o : Nat) (v : Value) : w.grownBy (w.setCell ⟨g, o, none⟩ v) (some g) := by
  have h := (Below.refl g w).setCell (p := ⟨g, o, none⟩) (Nat.le_refl _) v
  exact ⟨h.os, h.tape, h.output, h.size, fun k _ hne => Below.heap_setCell _ _ _ _ (fun e => hne (by rw [e]))⟩
theorem grown_setCells (w : World) (g : Nat) : ∀ (vs : List Value) (o : Nat), w.grownBy (w.setCells g o vs) (some g) := by
  intro vs
  induction vs generalizing w with
  | nil => intro o; exact ⟨rfl, rfl, rfl, Nat.le_refl _, fun _ _ _ => rfl⟩
  | cons v r ih => intro o; exact (grown_setCell w g o v).trans (ih _ _)
/-- Cells behind the row's end may be written. -/
theorem ptrs_cut {w : World} {g o : Nat} {vs : List Value} {D : List (Nat × List Int)} (h : Ptrs w g D) (ho : D.length ≤ o) : Ptrs (w.setCells g o vs) g D :=
  ⟨fun j hj => ⟨(World.cell?_setCells_out _ _ _ _ _ (by simp; omega)).trans (h.cell j hj).1, by rw [World.frozen?_setCells]; exact (h.cell j hj).2⟩, fun p hp => by
    obtain ⟨r1, r2, r3⟩ := h.recs p hp
    exact ⟨fun j hj => ⟨(World.cell?_setCells_out _ _ _ _ _ (by simp; omega)).trans (r1 j hj).1, by rw [World.frozen?_setCells]; exact (r1 j hj).2⟩, r2, Nat.lt_of_lt_of_le r3 (grown_setCells w g vs o).size⟩⟩
set_option maxHeartbeats 3200000 in
theorem distinct_any (g cap : Nat) (l : List (Nat × List Int)) (w : World) (h : Ptrs w g l) (hg : g < w.heap.size) (hl : l.length ≤ 1048576) (hcap : l.length ≤ cap) :
    Calls Try.prog 37 #[.slice (some ⟨g, 0, none⟩) l.length cap] w fun e w' =>
      ∃ l', l'.Perm l ∧ Ordd l' ∧ e = .returned (.slice (some ⟨g, 0, none⟩) (ddL l').length cap) ∧ Ptrs w' g (ddL l') ∧ w.grownBy w' (some g) := by
  have HS := Lib.hid (sortRecs_any g cap l w h hg hl)
  have HR0 := Lib.hid h.recs
  clear h
  go_enter Try.func37, Try.ntmps37
  go_wp2_with fail
  refine HS.out.mono ?_
  rintro e w1 ⟨rfl, l', hperm, hord, hp, hgr⟩
  have hll := hperm.length_eq
  have HP := Lib.hid hperm
  have HO := Lib.hid hord
  have HRE := Lib.hid hp.recs
  obtain ⟨n, hn⟩ : ∃ n, n = l.length := ⟨_, rfl⟩
  rw [← hn] at hl hcap hll ⊢
  have hm0 : Mix w1 g [] l' 0 := ⟨fun j hj => absurd hj (Nat.not_lt_zero _), fun j _ h2 => (hp.cell j h2).1, fun j h2 => (hp.cell j h2).2, fun j h2 => by rw [(hp.cell j h2).1]; rfl⟩
  have HGR := Lib.hid hgr
  clear hperm hord hp hn hgr
  go_wp2_with fail
  go_loopw [3, 10] (fun kv iv wr => ∃ (i : Nat) (D : List (Nat × List Int)), i ≤ n ∧ kv = .int .i64 (D.length : Int) ∧ iv = .int .i64 (i : Int) ∧ Hid (D = ddL (l'.take i)) ∧ Mix wr g D l' i ∧ w1.grownBy wr (some g)) (fun _ iv _ => n - (intOf iv).toNat)
  case atStart => exact ⟨0, [], by omega, rfl, rfl, Lib.hid rfl, hm0, ⟨rfl, rfl, rfl, Nat.le_refl _, fun _ _ _ => rfl⟩⟩
  case round =>
    clear hm0
    obtain ⟨i, D, hi, rfl, rfl, hD, hm, hgr⟩ := hrel
    have hDi : D.length ≤ i := by rw [hD.out]; exact ddL_len l' i (by omega)
    by_cases hlt : i < n
    · have z0 : (0 : Int) ≤ (i : Int) := by omega
      have z1 : (i : Int) < (n : Int) := by omega
      have hx := hm.tail i (Nat.le_refl _) (by omega)
      have hfx := hm.fz D.length (by omega)
      obtain ⟨u, hu⟩ := Option.isSome_iff_exists.1 (hm.there D.length (by omega))
      have HN := Lib.hid (ddL_succ l' i (by omega))
      have hst := fun q => (hm.drewN q).store hDi (by omega)
      obtain ⟨p, hpp⟩ : ∃ p, l'.getD i (0, []) = p := ⟨_, rfl⟩
      simp only [hpp] at hst
      rw [hpp] at hx HN
      have hpm : p ∈ l' := by rw [← hpp]; exact getD_mem _ _ _ (by omega)
      obtain ⟨b, r⟩ := p
      have hbk : ∀ q ∈ l', RecAt wr q.1 q.2 := fun q hq j hj => by
        obtain ⟨r1, r2, r3⟩ := HRE.out q hq
        have hblk := hgr.block q.1 r3 (by simpa using r2)
        have := r1 j hj
        unfold World.cell? World.frozen? at *
        simp only [hblk]; exact this
      have hrb : RecAt wr b r := hbk _ hpm
      obtain ⟨a0, a1, a2, a3, a4, hpa, c0, c1, c2, c3, c4⟩ := hrb.pad
      clear hpp
      have HG := Lib.hid hgr
      have HM := Lib.hid hm
      have HDI := Lib.hid hDi
      have HDL := Lib.hid (fun (hne : D ≠ []) => And.intro (hm.head (D.length - 1) (by have := List.length_pos_iff.2 hne; omega)) (hbk (D.getD (D.length - 1) (0, [])) (ddL_sub l' i (by omega) _ (by rw [hD.out]; exact getD_mem _ _ _ (by have := List.length_pos_iff.2 hne; rw [hD.out] at this; omega)))))
      have HH := Lib.hid hD
      obtain ⟨KK, hKK⟩ : ∃ KK, D.length = KK := ⟨_, rfl⟩
      have hKn : (KK : Int) < (n : Int) := by omega
      have hK0 : (0 : Int) ≤ (KK : Int) := by omega
      simp only [hKK] at hst
      rw [hKK] at hfx hu hDi ⊢
      rw [hKK] at HDL
      have HKK := Lib.hid hKK
      have HST := Lib.hid hst
      clear hm hgr hbk hrb hpm hD hst hKK hDi
      have hgT : ∀ q, w1.grownBy ((wr.drewN q).setCell ⟨g, KK, none⟩ (.pointer (some ⟨b, 0, none⟩))) (some g) := fun q => ((grown_drewN HG.out q).trans (grown_setCell (wr.drewN q) g KK (.pointer (some ⟨b, 0, none⟩))))
      have HGT := Lib.hid hgT
      clear hgT
      by_cases hK1 : 0 < KK
      · obtain ⟨hx2, hrc⟩ := HDL.out (fun e => by have := HKK.out; rw [e] at this; simp at this; omega)
        obtain ⟨L, hL⟩ : ∃ L : Nat, KK - 1 = L := ⟨_, rfl⟩
        rw [hL] at hx2 hrc
        obtain ⟨p2, hp2⟩ : ∃ p2, D.getD L (0, []) = p2 := ⟨_, rfl⟩
        rw [hp2] at hx2 hrc
        obtain ⟨b2, r2⟩ := p2
        obtain ⟨d0, d1, d2, d3, d4, hpd, e0, e1, e2, e3, e4⟩ := hrc.pad
        have hw : IntKind.i64.wrap ((KK : Int) - 1) = (L : Int) := by rw [show ((KK : Int) - 1) = (L : Int) by omega]; exact wrap64_nat L (by omega)
        have g0 : (0 : Int) < (KK : Int) := by omega
        have zL0 : (0 : Int) ≤ (L : Int) := by omega
        have zL1 : (L : Int) < (n : Int) := by omega
        have HPP := Lib.hid hp2
        have HLL := Lib.hid hL
        clear hp2 hL
        by_cases he : ([d0, d1, d2, d3, d4] : List Int) = [a0, a1, a2, a3, a4]
        · have heq : ∀ w', (binOp .eql 60 (.agg #[.int .i64 d0, .int .i64 d1, .int .i64 d2, .int .i64 d3, .int .i64 d4]) (.agg #[.int .i64 a0, .int .i64 a1, .int .i64 a2, .int .i64 a3, .int .i64 a4])).run Try.prog w' = .ok (.bool true) w' := fun w' => by rw [eqRec, decide_eq_true he]
          have HE : Hid (ddL (l'.take (i + 1)) = D) := Lib.hid (by
            rw [HN.out, ← HH.out]
            unfold ddStep
            rw [if_pos ⟨fun e => by have := HKK.out; rw [e] at this; simp at this; omega, by rw [HKK.out, HLL.out, HPP.out]; show pad5 r2 = pad5 r; rw [hpd, hpa, he]⟩])
          clear he hpa hpd hrc
          go_wp2_with fail
          go_quiet (fail)
          go_wp2_with fail
          go_roundw
          case rel => exact ⟨i + 1, D, by omega, by rw [HKK.out], by go_num, Lib.hid HE.out.symm, HM.out.next.drewN _, grown_drewN HG.out _⟩
          case measure => simp [intOf]; omega
        · have heq : ∀ w', (binOp .eql 60 (.agg #[.int .i64 d0, .int .i64 d1, .int .i64 d2, .int .i64 d3, .int .i64 d4]) (.agg #[.int .i64 a0, .int .i64 a1, .int .i64 a2, .int .i64 a3, .int .i64 a4])).run Try.prog w' = .ok (.bool false) w' := fun w' => by rw [eqRec, decide_eq_false he]
          have HE : Hid (ddL (l'.take (i + 1)) = D ++ [(b, r)]) := Lib.hid (by
            rw [HN.out, ← HH.out]
            unfold ddStep
            rw [if_neg (fun h => by
              have h2 := h.2
              rw [HKK.out, HLL.out, HPP.out] at h2
              apply he; rw [← hpa, ← hpd]; exact h2)])
          clear he hpa hpd hrc
          go_wp2_with fail
          go_quiet (fail)
          go_wp2_with fail
          go_roundw
          case rel => exact ⟨i + 1, D ++ [(b, r)], by omega, by rw [List.length_append, HKK.out]; go_num, by go_num, Lib.hid HE.out.symm, HST.out _, HGT.out _⟩
          case measure => simp [intOf]; omega
      · have hk0 : KK = 0 := by omega
        have g0 : decide (0 < KK) = false := by simp; omega
        have HK0 := Lib.hid hk0
        clear hk0
        have HE : Hid (ddL (l'.take (i + 1)) = D ++ [(b, r)]) := Lib.hid (by
          rw [HN.out, ← HH.out]
          unfold ddStep
          rw [if_neg (fun h => h.1 (List.eq_nil_of_length_eq_zero (by rw [HKK.out, HK0.out])))])
        clear hpa
        go_wp2_with fail
        go_quiet (fail)
        go_wp2_with fail
        go_roundw
        case rel => exact ⟨i + 1, D ++ [(b, r)], by omega, by rw [List.length_append, HKK.out]; go_num, by go_num, Lib.hid HE.out.symm, HST.out _, HGT.out _⟩
        case measure => simp [intOf]; omega
    · obtain rfl : i = n := by omega
      have HDE : Hid (D = ddL l') := Lib.hid (by rw [hD.out, List.take_of_length_le (by omega)])
      have HPT : Hid (Ptrs wr g D) := Lib.hid ⟨fun j hj => ⟨hm.head j hj, hm.fz j (by omega)⟩, fun p hp => by
        obtain ⟨r1, r2, r3⟩ := HRE.out p (ddL_sub l' l'.length (Nat.le_refl _) p (by rw [List.take_length, ← HDE.out]; exact hp))
        refine ⟨fun j hj => ?_, r2, Nat.lt_of_lt_of_le r3 hgr.size⟩
        have hblk := hgr.block p.1 r3 (by simpa using r2)
        have := r1 j hj
        unfold World.cell? World.frozen? at *
        simp only [hblk]; exact this⟩
      have HG := Lib.hid (HGR.out.trans hgr)
      have hth := hm.there
      have hfz := hm.fz
      have HDl := Lib.hid hDi
      obtain ⟨KK, hKK⟩ : ∃ KK, D.length = KK := ⟨_, rfl⟩
      rw [hKK] at hDi ⊢
      have HKK := Lib.hid hKK
      clear hm hgr hKK hD
      by_cases hk : KK < i
      · have hsl : ∀ w', (Instr.slice 49 (.slice (some ⟨g, 0, none⟩) i cap) (some (.int .i64 (KK : Int))) none none).run Try.prog w' = .ok (.slice (some ⟨g, KK, none⟩) (i - KK) (cap - KK)) w' := fun w' => by
          go_simp
          intro hh; omega
        have hcl : ∀ ty, (Builtin.clear_ #[49] ty #[.slice (some ⟨g, KK, none⟩) (i - KK) (cap - KK)]).run Try.prog wr = .ok (.tuple #[]) (wr.setCells g KK (List.replicate (i - KK) (.pointer none))) :=
          fun ty => Lib.run_clear_slice wr 49 50 ty (.pointer none) Try.underlying49 Try.zeroValue50 rfl rfl g KK _ _ (by omega) (fun j hj => hth _ (by omega)) (fun j hj => hfz _ (by omega))
        clear hth hfz
        go_wp2_with (first | (simp only [hsl]) | (simp only [hcl]))
        go_ret
        exact ⟨l', HP.out, HO.out, by rw [← HDE.out, HKK.out]; rfl, by rw [← HDE.out]; exact ptrs_cut HPT.out (by rw [HKK.out]; exact Nat.le_refl _), HG.out.trans (grown_setCells wr g _ _)⟩
      · obtain rfl : KK = i := by omega
        have hsl : ∃ ad, ∀ w', (Instr.slice 49 (.slice (some ⟨g, 0, none⟩) KK cap) (some (.int .i64 (KK : Int))) none none).run Try.prog w' = .ok (.slice ad 0 (cap - KK)) w' := by
          by_cases hcc : cap = KK
          · exact ⟨some ⟨g, 0, none⟩, fun w' => by go_simp⟩
          · exact ⟨some ⟨g, KK, none⟩, fun w' => by go_simp⟩
        obtain ⟨ad, hsl⟩ := hsl
        have hcl : ∀ ty, (Builtin.clear_ #[49] ty #[.slice ad 0 (cap - KK)]).run Try.prog wr = .ok (.tuple #[]) wr := fun ty => by
          cases ad <;> simp [Builtin.clear_, run_underlying Try.underlying49]
        clear hth hfz
        go_wp2_with (first | (simp only [hsl]) | (simp only [hcl]))
        go_ret
        exact ⟨l', HP.out, HO.out, by rw [← HDE.out, HKK.out]; rfl, by rw [← HDE.out]; exact HPT.out, HG.out⟩
end Go.Proofs.Ytnelddlbpdpndaa
