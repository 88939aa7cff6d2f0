/- Texts of this claim, merged: SeaB. Conditions: as stated. -/
import Derived.Test.YtpnapdhcdhcacaaXa19
import Derived.Test.YtpnapdhcdhcacaaXa17
import Derived.Test.YtpnapdhcdhcacaaXa13
import Derived.Maps.AppendAt
namespace Go.Proofs.Ytpnapdhcdhcacaa
open Go.RowKit

theorem row_at8 {w : World} {B : Nat} {ap : Option Addr} {cap k : Nat} {ps : List Int} (h : OwnI w B (.slice ap ps.length cap) ps) (hk : k < ps.length) : ∃ x, ap = some x ∧ w.cell? (x.add k) = some (.int .i64 (ps.getD k 0)) := by
  obtain ⟨a', cap', hv, hc⟩ := h.read
  cases hv
  obtain ⟨x, e1, e2⟩ := hc k hk
  rw [get_getD ps k hk] at e2
  exact ⟨x, e1, e2⟩
set_option maxHeartbeats 1600000 in
set_option maxRecDepth 20000 in
theorem covered8_any (v : Value) (l : List (Int × Int)) (d0 d1 : Int) (w : World) (hr : ReadD w v l) (hl : l.length ≤ 1048576) :
    Calls Try.prog 57 #[v, .agg #[.int .i64 d0, .int .i64 d1]] w fun e w' => e = .returned (.bool (cvd l (d0, d1))) ∧ Below w.heap.size w w' := by
  have hb1 := (Below.refl w.heap.size w).alloc (Nat.le_refl _) (.cells #[.int .i64 d0, .int .i64 d1] 39)
  obtain ⟨c0, c1⟩ := zero2 w 39 (.int .i64 d0) (.int .i64 d1)
  have HB1 := Lib.hid hb1
  have HC := Lib.hid (And.intro c0 c1)
  obtain ⟨a, cap, rfl, ha⟩ := hr
  have HA := Lib.hid ha
  clear ha hb1 c0 c1
  go_enter Try.func57, Try.ntmps57
  go_wp2_with fail
  go_loopw [5] (fun iv wr => ∃ i : Nat, i ≤ l.length ∧ iv = .int .i64 (i : Int) ∧ Hid (cvTo l (d0, d1) i = false) ∧ Hid (Below (w.alloc (.cells #[.int .i64 d0, .int .i64 d1] 39)).heap.size (w.alloc (.cells #[.int .i64 d0, .int .i64 d1] 39)) wr)) (fun iv _ => l.length - (intOf iv).toNat)
  case atStart => exact ⟨0, by omega, rfl, Lib.hid rfl, Lib.hid (Below.refl _ _)⟩
  case round =>
    obtain ⟨i, hi, rfl, hno, hb⟩ := hrel
    obtain ⟨w1, hw1⟩ : ∃ w', w' = wr := ⟨_, rfl⟩
    rw [← hw1] at hb ⊢
    clear hw1
    by_cases hlt : i < l.length
    · obtain ⟨b, o, rfl, h0, h1⟩ := HA.out i hlt
      have hbw := HB1.out.trans (hb.out.mono HB1.out.size)
      replace h0 := (hbw.cell (World.block_lt_of_cell? w _ h0)).trans h0
      replace h1 := (hbw.cell (World.block_lt_of_cell? w _ h1)).trans h1
      have c0 := (hb.out.cell (World.block_lt_of_cell? _ _ HC.out.1)).trans HC.out.1
      have c1 := (hb.out.cell (World.block_lt_of_cell? _ _ HC.out.2)).trans HC.out.2
      have hS : cvTo l (d0, d1) (i + 1) = (cvTo l (d0, d1) i || ((l.getD i (0, 0)).2 == d1 && (bits .and .i64 (l.getD i (0, 0)).1 d0 == (l.getD i (0, 0)).1))) := rfl
      have hY : (l.getD i (0, 0)).2 = d1 → bits .and .i64 (l.getD i (0, 0)).1 d0 = (l.getD i (0, 0)).1 → cvd l (d0, d1) = true := fun h2 h3 => (cvd_iff _ _).2 ⟨l.getD i (0, 0), by rw [List.getD_eq_getElem?_getD, List.getElem?_eq_getElem hlt]; exact List.getElem_mem hlt, h2, h3⟩
      obtain ⟨⟨y0, y1⟩, hy⟩ : ∃ z, z = l.getD i (0, 0) := ⟨_, rfl⟩
      rw [← hy] at h0 h1 hS hY
      simp only at h0 h1 hS hY
      rw [hno.out, Bool.false_or] at hS
      obtain ⟨e1, he1⟩ : ∃ e1, (y1 == d1) = e1 := ⟨_, rfl⟩
      obtain ⟨e2, he2⟩ : ∃ e2, (bits .and .i64 y0 d0 == y0) = e2 := ⟨_, rfl⟩
      have HY : Hid (e1 = true → e2 = true → cvd l (d0, d1) = true) := Lib.hid (fun q1 q2 => hY (by rw [← beq_iff_eq, he1]; exact q1) (by rw [← beq_iff_eq, he2]; exact q2))
      rw [he1, he2] at hS
      have HS := Lib.hid hS
      have z0 : (0 : Int) ≤ (i : Int) := by omega
      have z1 : (i : Int) < (l.length : Int) := by omega
      clear hy hS hY hbw
      cases e1 with
      | false =>
        go_wp2_with fail
        go_quiet (fail)
        go_wp2_with fail
        go_roundw
        case rel => exact ⟨i + 1, by omega, by go_num, Lib.hid (by rw [HS.out]; rfl), Lib.hid (below_drewN hb.out _)⟩
        case measure => simp [intOf]; omega
      | true =>
        cases e2 with
        | false =>
          go_wp2_with fail
          go_quiet (fail)
          go_wp2_with fail
          go_roundw
          case rel => exact ⟨i + 1, by omega, by go_num, Lib.hid (by rw [HS.out]; rfl), Lib.hid (below_drewN hb.out _)⟩
          case measure => simp [intOf]; omega
        | true =>
          have HE := Lib.hid (HY.out rfl rfl)
          go_wp2_with fail
          go_quiet (fail)
          go_wp2_with fail
          go_ret
          exact ⟨ret_b HE.out, HB1.out.trans ((below_drewN hb.out _).mono HB1.out.size)⟩
    · obtain rfl : i = l.length := by omega
      go_wp2_with fail
      go_ret
      exact ⟨ret_b hno.out, HB1.out.trans (hb.out.mono HB1.out.size)⟩
end Go.Proofs.Ytpnapdhcdhcacaa
