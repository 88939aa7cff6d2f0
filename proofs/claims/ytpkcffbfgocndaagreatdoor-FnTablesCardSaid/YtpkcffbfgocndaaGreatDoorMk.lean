/- Texts of this claim, merged: PrjE, PrjF, PrjG, PrjI. Conditions: as stated. -/
import Derived.Test.YtpkcffbfgocndaaGreatDoorMj
import Derived.Maps.AppendAt
namespace Go.Proofs.YtpkcffbfgocndaaGreatDoor
open Go.RowKit

theorem RecAt.pad {w : World} {b : Nat} {r : List Int} (h : RecAt w b r) : ∃ a0 a1 a2 a3 a4 : Int, pad5 r = [a0, a1, a2, a3, a4] ∧ w.cell? ⟨b, 0, none⟩ = some (.int .i64 a0) ∧ w.cell? ⟨b, 1, none⟩ = some (.int .i64 a1) ∧ w.cell? ⟨b, 2, none⟩ = some (.int .i64 a2) ∧ w.cell? ⟨b, 3, none⟩ = some (.int .i64 a3) ∧ w.cell? ⟨b, 4, none⟩ = some (.int .i64 a4) :=
  ⟨_, _, _, _, _, rfl, (h 0 (by omega)).1, (h 1 (by omega)).1, (h 2 (by omega)).1, (h 3 (by omega)).1, (h 4 (by omega)).1⟩
/-- Two records are compared cell by cell. -/
theorem eqRecIn (a0 a1 a2 a3 a4 b0 b1 b2 b3 b4 : Int) (w : World) : (Op.equalIn 10000 84 (.agg #[.int .i64 a0, .int .i64 a1, .int .i64 a2, .int .i64 a3, .int .i64 a4]) (.agg #[.int .i64 b0, .int .i64 b1, .int .i64 b2, .int .i64 b3, .int .i64 b4])).run Tryz.prog w = .ok (decide ([a0, a1, a2, a3, a4] = [b0, b1, b2, b3, b4])) w := by
  have tu := Tryz.underlying3
  have ta := Tryz.isAgg3
  have tz := Tryz.sizeOf3
  rw [show (10000 : Nat) = 9999 + 1 from rfl, Op.equalIn]
  simp only [Sem.run_bind, run_underlying Tryz.underlying84, Result.andThen_ok]
  simp only [Std.Legacy.Range.forIn_eq_forIn_range', Std.Legacy.Range.size, Nat.sub_zero, Nat.add_sub_cancel, Nat.div_one, List.range'_succ, List.range'_zero, List.forIn_cons, List.forIn_nil]
  go_simp
  by_cases h0 : a0 = b0 <;> by_cases h1 : a1 = b1 <;> by_cases h2 : a2 = b2 <;> by_cases h3 : a3 = b3 <;> by_cases h4 : a4 = b4 <;> simp [h0, h1, h2, h3, h4]
theorem eqRec (a0 a1 a2 a3 a4 b0 b1 b2 b3 b4 : Int) (w : World) : (binOp .eql 84 (.agg #[.int .i64 a0, .int .i64 a1, .int .i64 a2, .int .i64 a3, .int .i64 a4]) (.agg #[.int .i64 b0, .int .i64 b1, .int .i64 b2, .int .i64 b3, .int .i64 b4])).run Tryz.prog w = .ok (.bool (decide ([a0, a1, a2, a3, a4] = [b0, b1, b2, b3, b4]))) w := by
  simp only [binOp, Op.equal, Op.maxDepth]
  simp [eqRecIn]
/-- A row that is being written: D at its head, l from place i on. -/
structure Mix (w : World) (g : Nat) (D l : List (Nat × List Int)) (i : Nat) : Prop where
  head : ∀ j, j < D.length → w.cell? ⟨g, j, none⟩ = some (.pointer (some ⟨(D.getD j (0, [])).1, 0, none⟩))
  tail : ∀ j, i ≤ j → j < l.length → w.cell? ⟨g, j, none⟩ = some (.pointer (some ⟨(l.getD j (0, [])).1, 0, none⟩))
  fz : ∀ j, j < l.length → w.frozen? ⟨g, j, none⟩ = false
  there : ∀ j, j < l.length → (w.cell? ⟨g, j, none⟩).isSome = true
theorem Mix.drewN {w : World} {g i : Nat} {D l : List (Nat × List Int)} (h : Mix w g D l i) (n : Nat) : Mix (w.drewN n) g D l i := ⟨h.head, h.tail, h.fz, h.there⟩
theorem Mix.next {w : World} {g i : Nat} {D l : List (Nat × List Int)} (h : Mix w g D l i) : Mix w g D l (i + 1) := ⟨h.head, fun j h1 h2 => h.tail j (by omega) h2, h.fz, h.there⟩
theorem Mix.store {w : World} {g i : Nat} {D l : List (Nat × List Int)} (h : Mix w g D l i) (hD : D.length ≤ i) (hi : i < l.length) : Mix (w.setCell ⟨g, D.length, none⟩ (.pointer (some ⟨(l.getD i (0, [])).1, 0, none⟩))) g (D ++ [l.getD i (0, [])]) l (i + 1) := by
  obtain ⟨u, hu⟩ := Option.isSome_iff_exists.1 (h.there D.length (by omega))
  refine ⟨fun j hj => ?_, fun j h1 h2 => ?_, fun j hj => ?_, fun j hj => ?_⟩
  · rw [List.length_append, List.length_singleton] at hj
    rw [getD_snoc _ _ _ _ hj]
    by_cases hjl : j < D.length
    · rw [if_pos hjl]
      exact (World.cell?_setCell_other _ _ _ _ (by intro e; simp only [Addr.mk.injEq] at e; omega)).trans (h.head j hjl)
    · rw [if_neg hjl]
      obtain rfl : j = D.length := by omega
      exact World.cell?_setCell_same _ _ _ hu
  · exact (World.cell?_setCell_other _ _ _ _ (by intro e; simp only [Addr.mk.injEq] at e; omega)).trans (h.tail j (by omega) h2)
  · rw [World.frozen?_setCell]; exact h.fz j hj
  · by_cases hjl : j = D.length
    · subst hjl; rw [World.cell?_setCell_same _ _ _ hu]; rfl
    · rw [World.cell?_setCell_other _ _ _ _ (by intro e; simp only [Addr.mk.injEq] at e; omega)]; exact h.there j hj
theorem wrap64_nat (L : Nat) (h : L ≤ 1048576) : IntKind.i64.wrap (L : Int) = (L : Int) := IntWalk.i64_in _ (by omega)
theorem grown_drewN {w w' : World} {row : Option Nat} (h : w.grownBy w' row) (n : Nat) : w.grownBy (w'.drewN n) row := ⟨h.os, h.tape, h.output, h.size, h.block⟩
theorem grown_setCell (w : World) (g o : Nat) (v : Value) : w.grownBy (w.setCell ⟨g, o, none⟩ v) (some g) := by
  have h := (Below.refl g w).setCell (p := ⟨g, o, none⟩) (Nat.le_refl _) v
  exact ⟨h.os, h.tape, h.output, h.size, fun k _ hne => Below.heap_setCell _ _ _ _ (fun e => hne (by rw [e]))⟩
theorem grown_setCells (w : World) (g : Nat) : ∀ (vs : List Value) (o : Nat), w.grownBy (w.setCells g o vs) (some g) := by
  intro vs
  induction vs generalizing w with
  | nil => intro o; exact ⟨rfl, rfl, rfl, Nat.le_refl _, fun _ _ _ => rfl⟩
  | cons v r ih => intro o; exact (grown_setCell w g o v).trans (ih _ _)
/-- Cells behind the row's end may be written. -/
theorem ptrs_cut {w : World} {g o : Nat} {vs : List Value} {D : List (Nat × List Int)} (h : Ptrs w g D) (ho : D.length ≤ o) : Ptrs (w.setCells g o vs) g D :=
  ⟨fun j hj => ⟨(World.cell?_setCells_out _ _ _ _ _ (by simp; omega)).trans (h.cell j hj).1, by rw [World.frozen?_setCells]; exact (h.cell j hj).2⟩, fun p hp => by
    obtain ⟨r1, r2, r3⟩ := h.recs p hp
    exact ⟨fun j hj => ⟨(World.cell?_setCells_out _ _ _ _ _ (by simp; omega)).trans (r1 j hj).1, by rw [World.frozen?_setCells]; exact (r1 j hj).2⟩, r2, Nat.lt_of_lt_of_le r3 (grown_setCells w g vs o).size⟩⟩
set_option maxHeartbeats 3200000 in
theorem distinct_any (g cap : Nat) (l : List (Nat × List Int)) (w : World) (h : Ptrs w g l) (hg : g < w.heap.size) (hl : l.length ≤ 1048576) (hcap : l.length ≤ cap) :
    Calls Tryz.prog 45 #[.slice (some ⟨g, 0, none⟩) l.length cap] w fun e w' =>
      ∃ l', l'.Perm l ∧ Ordd l' ∧ e = .returned (.slice (some ⟨g, 0, none⟩) (ddL l').length cap) ∧ Ptrs w' g (ddL l') ∧ w.grownBy w' (some g) := by
  have HS := Lib.hid (sortRecs_any g cap l w h hg hl)
  have HR0 := Lib.hid h.recs
  clear h
  go_enter Tryz.func45, Tryz.ntmps45
  go_wp2_with fail
  refine HS.out.mono ?_
  rintro e w1 ⟨rfl, l', hperm, hord, hp, hgr⟩
  have hll := hperm.length_eq
  have HP := Lib.hid hperm
  have HO := Lib.hid hord
  have HRE := Lib.hid hp.recs
  obtain ⟨n, hn⟩ : ∃ n, n = l.length := ⟨_, rfl⟩
  rw [← hn] at hl hcap hll ⊢
  have hm0 : Mix w1 g [] l' 0 := ⟨fun j hj => absurd hj (Nat.not_lt_zero _), fun j _ h2 => (hp.cell j h2).1, fun j h2 => (hp.cell j h2).2, fun j h2 => by rw [(hp.cell j h2).1]; rfl⟩
  have HGR := Lib.hid hgr
  clear hperm hord hp hn hgr
  go_wp2_with fail
  go_loopw [3, 10] (fun kv iv wr => ∃ (i : Nat) (D : List (Nat × List Int)), i ≤ n ∧ kv = .int .i64 (D.length : Int) ∧ iv = .int .i64 (i : Int) ∧ Hid (D = ddL (l'.take i)) ∧ Mix wr g D l' i ∧ w1.grownBy wr (some g)) (fun _ iv _ => n - (intOf iv).toNat)
  case atStart => exact ⟨0, [], by omega, rfl, rfl, Lib.hid rfl, hm0, ⟨rfl, rfl, rfl, Nat.le_refl _, fun _ _ _ => rfl⟩⟩
  case round =>
    clear hm0
    obtain ⟨i, D, hi, rfl, rfl, hD, hm, hgr⟩ := hrel
    have hDi : D.length ≤ i := by rw [hD.out]; exact ddL_len l' i (by omega)
    by_cases hlt : i < n
    · have z0 : (0 : Int) ≤ (i : Int) := by omega
      have z1 : (i : Int) < (n : Int) := by omega
      have hx := hm.tail i (Nat.le_refl _) (by omega)
      have hfx := hm.fz D.length (by omega)
      obtain ⟨u, hu⟩ := Option.isSome_iff_exists.1 (hm.there D.length (by omega))
      have HN := Lib.hid (ddL_succ l' i (by omega))
      have hst := fun q => (hm.drewN q).store hDi (by omega)
      obtain ⟨p, hpp⟩ : ∃ p, l'.getD i (0, []) = p := ⟨_, rfl⟩
      simp only [hpp] at hst
      rw [hpp] at hx HN
      have hpm : p ∈ l' := by rw [← hpp]; exact getD_mem _ _ _ (by omega)
      obtain ⟨b, r⟩ := p
      have hbk : ∀ q ∈ l', RecAt wr q.1 q.2 := fun q hq j hj => by
        obtain ⟨r1, r2, r3⟩ := HRE.out q hq
        have hblk := hgr.block q.1 r3 (by simpa using r2)
        have := r1 j hj
        unfold World.cell? World.frozen? at *
        simp only [hblk]; exact this
      have hrb : RecAt wr b r := hbk _ hpm
      obtain ⟨a0, a1, a2, a3, a4, hpa, c0, c1, c2, c3, c4⟩ := hrb.pad
      clear hpp
      have HG := Lib.hid hgr
      have HM := Lib.hid hm
      have HDI := Lib.hid hDi
      have HDL := Lib.hid (fun (hne : D ≠ []) => And.intro (hm.head (D.length - 1) (by have := List.length_pos_iff.2 hne; omega)) (hbk (D.getD (D.length - 1) (0, [])) (ddL_sub l' i (by omega) _ (by rw [hD.out]; exact getD_mem _ _ _ (by have := List.length_pos_iff.2 hne; rw [hD.out] at this; omega)))))
      have HH := Lib.hid hD
      obtain ⟨KK, hKK⟩ : ∃ KK, D.length = KK := ⟨_, rfl⟩
      have hKn : (KK : Int) < (n : Int) := by omega
      have hK0 : (0 : Int) ≤ (KK : Int) := by omega
      simp only [hKK] at hst
      rw [hKK] at hfx hu hDi ⊢
      rw [hKK] at HDL
      have HKK := Lib.hid hKK
      have HST := Lib.hid hst
      clear hm hgr hbk hrb hpm hD hst hKK hDi
      have hgT : ∀ q, w1.grownBy ((wr.drewN q).setCell ⟨g, KK, none⟩ (.pointer (some ⟨b, 0, none⟩))) (some g) := fun q => ((grown_drewN HG.out q).trans (grown_setCell (wr.drewN q) g KK (.pointer (some ⟨b, 0, none⟩))))
      have HGT := Lib.hid hgT
      clear hgT
      by_cases hK1 : 0 < KK
      · obtain ⟨hx2, hrc⟩ := HDL.out (fun e => by have := HKK.out; rw [e] at this; simp at this; omega)
        obtain ⟨L, hL⟩ : ∃ L : Nat, KK - 1 = L := ⟨_, rfl⟩
        rw [hL] at hx2 hrc
        obtain ⟨p2, hp2⟩ : ∃ p2, D.getD L (0, []) = p2 := ⟨_, rfl⟩
        rw [hp2] at hx2 hrc
        obtain ⟨b2, r2⟩ := p2
        obtain ⟨d0, d1, d2, d3, d4, hpd, e0, e1, e2, e3, e4⟩ := hrc.pad
        have hw : IntKind.i64.wrap ((KK : Int) - 1) = (L : Int) := by rw [show ((KK : Int) - 1) = (L : Int) by omega]; exact wrap64_nat L (by omega)
        have g0 : (0 : Int) < (KK : Int) := by omega
        have zL0 : (0 : Int) ≤ (L : Int) := by omega
        have zL1 : (L : Int) < (n : Int) := by omega
        have HPP := Lib.hid hp2
        have HLL := Lib.hid hL
        clear hp2 hL
        by_cases he : ([d0, d1, d2, d3, d4] : List Int) = [a0, a1, a2, a3, a4]
        · have heq : ∀ w', (binOp .eql 84 (.agg #[.int .i64 d0, .int .i64 d1, .int .i64 d2, .int .i64 d3, .int .i64 d4]) (.agg #[.int .i64 a0, .int .i64 a1, .int .i64 a2, .int .i64 a3, .int .i64 a4])).run Tryz.prog w' = .ok (.bool true) w' := fun w' => by rw [eqRec, decide_eq_true he]
          have HE : Hid (ddL (l'.take (i + 1)) = D) := Lib.hid (by
            rw [HN.out, ← HH.out]
            unfold ddStep
            rw [if_pos ⟨fun e => by have := HKK.out; rw [e] at this; simp at this; omega, by rw [HKK.out, HLL.out, HPP.out]; show pad5 r2 = pad5 r; rw [hpd, hpa, he]⟩])
          clear he hpa hpd hrc
          go_wp2_with fail
          go_quiet (fail)
          go_wp2_with fail
          go_roundw
          case rel => exact ⟨i + 1, D, by omega, by rw [HKK.out], by go_num, Lib.hid HE.out.symm, HM.out.next.drewN _, grown_drewN HG.out _⟩
          case measure => simp [intOf]; omega
        · have heq : ∀ w', (binOp .eql 84 (.agg #[.int .i64 d0, .int .i64 d1, .int .i64 d2, .int .i64 d3, .int .i64 d4]) (.agg #[.int .i64 a0, .int .i64 a1, .int .i64 a2, .int .i64 a3, .int .i64 a4])).run Tryz.prog w' = .ok (.bool false) w' := fun w' => by rw [eqRec, decide_eq_false he]
          have HE : Hid (ddL (l'.take (i + 1)) = D ++ [(b, r)]) := Lib.hid (by
            rw [HN.out, ← HH.out]
            unfold ddStep
            rw [if_neg (fun h => by
              have h2 := h.2
              rw [HKK.out, HLL.out, HPP.out] at h2
              apply he; rw [← hpa, ← hpd]; exact h2)])
          clear he hpa hpd hrc
          go_wp2_with fail
          go_quiet (fail)
          go_wp2_with fail
          go_roundw
          case rel => exact ⟨i + 1, D ++ [(b, r)], by omega, by rw [List.length_append, HKK.out]; go_num, by go_num, Lib.hid HE.out.symm, HST.out _, HGT.out _⟩
          case measure => simp [intOf]; omega
      · have hk0 : KK = 0 := by omega
        have g0 : decide (0 < KK) = false := by simp; omega
        have HK0 := Lib.hid hk0
        clear hk0
        have HE : Hid (ddL (l'.take (i + 1)) = D ++ [(b, r)]) := Lib.hid (by
          rw [HN.out, ← HH.out]
          unfold ddStep
          rw [if_neg (fun h => h.1 (List.eq_nil_of_length_eq_zero (by rw [HKK.out, HK0.out])))])
        clear hpa
        go_wp2_with fail
        go_quiet (fail)
        go_wp2_with fail
        go_roundw
        case rel => exact ⟨i + 1, D ++ [(b, r)], by omega, by rw [List.length_append, HKK.out]; go_num, by go_num, Lib.hid HE.out.symm, HST.out _, HGT.out _⟩
        case measure => simp [intOf]; omega
    · obtain rfl : i = n := by omega
      have HDE : Hid (D = ddL l') := Lib.hid (by rw [hD.out, List.take_of_length_le (by omega)])
      have HPT : Hid (Ptrs wr g D) := Lib.hid ⟨fun j hj => ⟨hm.head j hj, hm.fz j (by omega)⟩, fun p hp => by
        obtain ⟨r1, r2, r3⟩ := HRE.out p (ddL_sub l' l'.length (Nat.le_refl _) p (by rw [List.take_length, ← HDE.out]; exact hp))
        refine ⟨fun j hj => ?_, r2, Nat.lt_of_lt_of_le r3 hgr.size⟩
        have hblk := hgr.block p.1 r3 (by simpa using r2)
        have := r1 j hj
        unfold World.cell? World.frozen? at *
        simp only [hblk]; exact this⟩
      have HG := Lib.hid (HGR.out.trans hgr)
      have hth := hm.there
      have hfz := hm.fz
      have HDl := Lib.hid hDi
      obtain ⟨KK, hKK⟩ : ∃ KK, D.length = KK := ⟨_, rfl⟩
      rw [hKK] at hDi ⊢
      have HKK := Lib.hid hKK
      clear hm hgr hKK hD
      by_cases hk : KK < i
      · have hsl : ∀ w', (Instr.slice 69 (.slice (some ⟨g, 0, none⟩) i cap) (some (.int .i64 (KK : Int))) none none).run Tryz.prog w' = .ok (.slice (some ⟨g, KK, none⟩) (i - KK) (cap - KK)) w' := fun w' => by
          go_simp
          intro hh; omega
        have hcl : ∀ ty, (Builtin.clear_ #[69] ty #[.slice (some ⟨g, KK, none⟩) (i - KK) (cap - KK)]).run Tryz.prog wr = .ok (.tuple #[]) (wr.setCells g KK (List.replicate (i - KK) (.pointer none))) :=
          fun ty => Lib.run_clear_slice wr 69 70 ty (.pointer none) Tryz.underlying69 Tryz.zeroValue70 rfl rfl g KK _ _ (by omega) (fun j hj => hth _ (by omega)) (fun j hj => hfz _ (by omega))
        clear hth hfz
        go_wp2_with (first | (simp only [hsl]) | (simp only [hcl]))
        go_ret
        exact ⟨l', HP.out, HO.out, by rw [← HDE.out, HKK.out]; rfl, by rw [← HDE.out]; exact ptrs_cut HPT.out (by rw [HKK.out]; exact Nat.le_refl _), HG.out.trans (grown_setCells wr g _ _)⟩
      · obtain rfl : KK = i := by omega
        have hsl : ∃ ad, ∀ w', (Instr.slice 69 (.slice (some ⟨g, 0, none⟩) KK cap) (some (.int .i64 (KK : Int))) none none).run Tryz.prog w' = .ok (.slice ad 0 (cap - KK)) w' := by
          by_cases hcc : cap = KK
          · exact ⟨some ⟨g, 0, none⟩, fun w' => by go_simp⟩
          · exact ⟨some ⟨g, KK, none⟩, fun w' => by go_simp⟩
        obtain ⟨ad, hsl⟩ := hsl
        have hcl : ∀ ty, (Builtin.clear_ #[69] ty #[.slice ad 0 (cap - KK)]).run Tryz.prog wr = .ok (.tuple #[]) wr := fun ty => by
          cases ad <;> simp [Builtin.clear_, run_underlying Tryz.underlying69]
        clear hth hfz
        go_wp2_with (first | (simp only [hsl]) | (simp only [hcl]))
        go_ret
        exact ⟨l', HP.out, HO.out, by rw [← HDE.out, HKK.out]; rfl, by rw [← HDE.out]; exact HPT.out, HG.out⟩
end Go.Proofs.YtpkcffbfgocndaaGreatDoor
namespace Go.Proofs.YtpkcffbfgocndaaGreatDoor
open Go.RowKit

theorem infoRp : (Tryz.prog.info? 70).map (fun i => (i.zero, i.size, i.bytes)) = some (some (.pointer none), 1, 8) := by kernel_rfl
def ptrV (p : Nat × List Int) : Value := .pointer (some ⟨p.1, 0, none⟩)
theorem one_ptr (p : Nat × List Int) : ∀ u ∈ [ptrV p], u.oneCell' = true := by intro u hu; simp at hu; subst hu; rfl
structure OwnP (w : World) (B : Nat) (v : Value) (P : List (Nat × List Int)) : Prop where
  own : w.ownsRow B 70 1 v P.length (P.map ptrV)
  recs : ∀ p ∈ P, RecAt w p.1 p.2 ∧ B ≤ p.1 ∧ p.1 < w.heap.size ∧ v.ownBlock ≠ some p.1
  full : v ≠ .slice none 0 0
theorem OwnP.made {w : World} {B : Nat} {v : Value} (h : w.ownsRow B 70 1 v 0 []) (hv : v ≠ .slice none 0 0) : OwnP w B v [] := ⟨h, (fun _ h => by cases h), hv⟩
theorem OwnP.lt {w : World} {B : Nat} {v : Value} {P : List (Nat × List Int)} (h : OwnP w B v P) : ∀ k, v.ownBlock = some k → B ≤ k ∧ k < w.heap.size := World.ownsRow.lt h.own
theorem OwnP.kept {w w' : World} {B : Nat} {v : Value} {P : List (Nat × List Int)} (h : OwnP w B v P) (hb : Below w.heap.size w w') : OwnP w' B v P := by
  refine ⟨?_, fun p hp => ?_, h.full⟩
  · refine World.ownsRow.kept (row := none) h.own ⟨hb.os, hb.tape, hb.output, hb.size, fun k hk _ => hb.block k hk⟩ ?_
    cases hv : v.ownBlock with
    | none => exact .inl rfl
    | some g => exact .inr (by simp)
  · obtain ⟨h1, h2, h3, h4⟩ := h.recs p hp
    exact ⟨h1.kept hb h3, h2, Nat.lt_of_lt_of_le h3 hb.size, h4⟩
theorem RecAt.grown {w w' : World} {b : Nat} {r : List Int} {row : Option Nat} (h : RecAt w b r) (hg : w.grownBy w' row) (hb : b < w.heap.size) (hr : row ≠ some b) : RecAt w' b r := by
  intro j hj
  have hblk := hg.block b hb (Ne.symm hr)
  have := h j hj
  unfold World.cell? World.frozen? at *
  simp only [hblk]; exact this
theorem OwnP.snoc {w w2 w3 : World} {B : Nat} {v v' : Value} {P : List (Nat × List Int)} {p : Nat × List Int} (h : OwnP w B v P) (hb : Below w.heap.size w w2) (hBw : B ≤ w.heap.size) (hr : RecAt w2 p.1 p.2) (hp : w.heap.size ≤ p.1) (hp2 : p.1 < w2.heap.size)
    (ho : w3.ownsRow B 70 1 v' (P.length + 1) (P.map ptrV ++ [ptrV p])) (hg : w2.grownBy w3 v.ownBlock) (hn : v' = .slice none 0 0 ↔ v = .slice none 0 0 ∧ 1 = 0) (hat : v'.ownBlock = v.ownBlock ∨ v'.ownBlock = some w2.heap.size) : OwnP w3 B v' (P ++ [p]) := by
  have h2 := h.kept hb
  refine ⟨by rw [List.length_append, List.length_singleton, List.map_append]; exact ho, fun q hq => ?_, fun e => by have := (hn.1 e).2; omega⟩
  have hvp : v.ownBlock ≠ some p.1 := fun e => by have := (h.lt _ e).2; omega
  have key : RecAt w2 q.1 q.2 ∧ B ≤ q.1 ∧ q.1 < w2.heap.size ∧ v.ownBlock ≠ some q.1 := by
    rcases List.mem_append.1 hq with hq | hq
    · exact h2.recs q hq
    · rw [List.mem_singleton] at hq
      subst hq
      exact ⟨hr, by omega, hp2, hvp⟩
  obtain ⟨k1, k2, k3, k4⟩ := key
  refine ⟨k1.grown hg k3 k4, k2, Nat.lt_of_lt_of_le k3 hg.size, fun e => ?_⟩
  rcases hat with hat | hat
  · rw [hat] at e; exact k4 e
  · rw [hat] at e; simp at e; omega
theorem OwnP.shape {w : World} {B : Nat} {v : Value} {P : List (Nat × List Int)} (h : OwnP w B v P) : ∃ g cap, v = .slice (some ⟨g, 0, none⟩) P.length cap ∧ B ≤ g ∧ g < w.heap.size ∧ P.length ≤ cap ∧ Ptrs w g P := by
  rcases h.own.2 with ⟨hv, _⟩ | ⟨g, cap, cur, hv, hB, hgg, hnc, rest⟩
  · exact absurd hv h.full
  · subst hv
    have hg := (Array.getElem?_eq_some_iff.1 hgg).1
    refine ⟨g, cap, rfl, hB, hg, hnc, fun j hj => ⟨?_, World.ownsRow.frozenAt h.own j⟩, fun p hp => ?_⟩
    · rw [World.ownsRow.cellAt h.own j (by omega)]
      simp [hj, ptrV]
    · obtain ⟨h1, h2, h3, h4⟩ := h.recs p hp
      exact ⟨h1, fun e => h4 (by rw [e]; rfl), h3⟩
end Go.Proofs.YtpkcffbfgocndaaGreatDoor
namespace Go.Proofs.YtpkcffbfgocndaaGreatDoor
open Go.RowKit

theorem pad5_eq (r : List Int) (h : r.length ≤ 5) : pad5 r = r ++ List.replicate (5 - r.length) 0 := by
  apply List.ext_getElem
  · rw [pad5_len, List.length_append, List.length_replicate]; omega
  · intro i h1 h2
    rw [pad5_get, List.getElem_append]
    split
    · next hi => rw [getD_get _ _ _ hi]
    · next hi => rw [getD_end _ _ (by omega)]; simp
theorem pad5_take (r : List Int) (h : r.length ≤ 5) : (pad5 r).take r.length = r := by rw [pad5_eq r h, List.take_left]
theorem lessR_app : ∀ (a b z : List Int), a.length = b.length → lessR (a ++ z) (b ++ z) = lessR a b
  | [], [], z, _ => by rw [List.nil_append]; exact lessR_irrefl z
  | [], _ :: _, _, h => by simp at h
  | _ :: _, [], _, h => by simp at h
  | x :: a, y :: b, z, h => by
    simp only [List.cons_append, lessR]
    rw [lessR_app a b z (by simpa using h)]
theorem lessR_pad {a b : List Int} (h : a.length = b.length) (h5 : a.length ≤ 5) : lessR (pad5 a) (pad5 b) = lessR a b := by
  rw [pad5_eq a h5, pad5_eq b (by omega), ← h]; exact lessR_app a b _ h
theorem rows_left {P l' : List (Nat × List Int)} {rows : List (List Int)} {m : Nat} (hP : P.map (·.2) = rows) (hp : l'.Perm P) (ho : Ordd l') (hm : m ≤ 5) (hr : ∀ r ∈ rows, r.length = m) :
    (ddL l').map (fun p => (pad5 p.2).take m) = onceL rows := by
  have hlen : ∀ p ∈ l', p.2.length = m := fun p hpm => hr _ (by rw [← hP]; exact List.mem_map.2 ⟨p, hp.mem_iff.1 hpm, rfl⟩)
  have hsub : ∀ p ∈ ddL l', p ∈ l' := fun p hpm => ddL_sub l' l'.length (Nat.le_refl _) p (by rw [List.take_length]; exact hpm)
  have htk : ∀ p ∈ l', (pad5 p.2).take m = p.2 := fun p hpm => by rw [← hlen p hpm]; exact pad5_take _ (by rw [hlen p hpm]; exact hm)
  have e : (ddL l').map (fun p => (pad5 p.2).take m) = (ddL l').map (·.2) := List.map_congr_left fun p hpm => htk p (hsub p hpm)
  rw [e]
  apply onceL_eq
  · unfold Asc
    rw [List.pairwise_map]
    have ha := ddL_asc l' ho l'.length (Nat.le_refl _)
    rw [List.take_length] at ha
    refine ha.imp_of_mem fun {a b} h1 h2 h3 => ?_
    rw [lessR_pad (by rw [hlen a (hsub a h1), hlen b (hsub b h2)]) (by rw [hlen a (hsub a h1)]; exact hm)] at h3
    exact h3
  · intro z
    have hv := ddL_vals l' l'.length (Nat.le_refl _)
    rw [List.take_length] at hv
    have h1 : z ∈ rows ↔ z ∈ l'.map (·.2) := by rw [← hP]; exact (hp.map _).mem_iff.symm
    rw [h1]
    constructor
    · intro hz
      obtain ⟨p, hpm, rfl⟩ := List.mem_map.1 hz
      exact List.mem_map.2 ⟨p, hsub p hpm, rfl⟩
    · intro hz
      obtain ⟨p, hpm, rfl⟩ := List.mem_map.1 hz
      obtain ⟨p2, hp2, he⟩ := List.mem_map.1 ((hv (pad5 p.2)).2 (List.mem_map.2 ⟨p, hpm, rfl⟩))
      refine List.mem_map.2 ⟨p2, hp2, ?_⟩
      have := congrArg (List.take m) he
      rwa [htk p2 (hsub p2 hp2), htk p hpm] at this
end Go.Proofs.YtpkcffbfgocndaaGreatDoor
namespace Go.Proofs.YtpkcffbfgocndaaGreatDoor
open Go.RowKit

/-- Block T holds the two cells of a table. -/
def BoxT (w : World) (T : Nat) (c : Int) (rv : Value) : Prop := w.heap[T]? = some (.cells #[.int .i64 c, rv] 26 (0, 0))
theorem BoxT.fresh (w : World) (c : Int) (rv : Value) : BoxT (w.alloc (.cells #[.int .i64 c, rv] 26)) w.heap.size c rv := by
  unfold BoxT World.alloc; simp
theorem BoxT.lt {w : World} {T : Nat} {c : Int} {rv : Value} (h : BoxT w T c rv) : T < w.heap.size := (Array.getElem?_eq_some_iff.1 h).1
theorem BoxT.cells {w : World} {T : Nat} {c : Int} {rv : Value} (h : BoxT w T c rv) : (w.cell? ⟨T, 0, none⟩ = some (.int .i64 c) ∧ w.cell? ⟨T, 1, none⟩ = some rv) ∧ w.frozen? ⟨T, 0, none⟩ = false ∧ w.frozen? ⟨T, 1, none⟩ = false := by
  unfold BoxT at h
  refine ⟨⟨?_, ?_⟩, ?_, ?_⟩ <;> simp [World.cell?, World.frozen?, h]
theorem BoxT.kept {w w' : World} {T D : Nat} {c : Int} {rv : Value} (h : BoxT w T c rv) (hb : Below D w w') (hT : T < D) : BoxT w' T c rv := (hb.block T hT).trans h
theorem BoxT.grown {w w' : World} {T : Nat} {c : Int} {u : Value} {row : Option Nat} (h : BoxT w T c u) (hg : w.grownBy w' row) (hT : row ≠ some T) : BoxT w' T c u := (hg.block T h.lt (Ne.symm hT)).trans h
theorem BoxT.set {w : World} {T : Nat} {c : Int} {rv rv' : Value} (h : BoxT w T c rv) : BoxT (w.setCell ⟨T, 1, none⟩ rv') T c rv' := by
  unfold BoxT at *
  simp only [World.setCell, Array.getElem?_modify]
  rw [if_pos trivial, h]
  rfl
theorem grown_alloc (w : World) (o : Obj) (row : Option Nat) : w.grownBy (w.alloc o) row :=
  ⟨rfl, rfl, rfl, by simp, fun k hk _ => Below.heap_alloc _ _ _ hk⟩
theorem grown_below {w w' : World} {row : Option Nat} (h : Below w.heap.size w w') : w.grownBy w' row := ⟨h.os, h.tape, h.output, h.size, fun k hk _ => h.block k hk⟩
theorem grown_new {w w1 w2 : World} {row row2 : Option Nat} (h : w.grownBy w1 row) (h2 : w1.grownBy w2 row2) (hr : ∀ k, row2 = some k → w.heap.size ≤ k) : w.grownBy w2 row :=
  ⟨h2.os.trans h.os, h2.tape.trans h.tape, h2.output.trans h.output, Nat.le_trans h.size h2.size, fun k hk hne => (h2.block k (Nat.lt_of_lt_of_le hk h.size) (fun e => by have := hr k e.symm; omega)).trans (h.block k hk hne)⟩
end Go.Proofs.YtpkcffbfgocndaaGreatDoor
