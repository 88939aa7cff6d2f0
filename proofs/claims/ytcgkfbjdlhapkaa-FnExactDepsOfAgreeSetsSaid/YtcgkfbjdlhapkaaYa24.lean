/- Texts of this claim, merged: MvA, SeaB. Conditions: as stated. -/
import Derived.Test.YtcgkfbjdlhapkaaYa11
import Derived.Test.YtcgkfbjdlhapkaaYa7
import Derived.Deep.Quiet
import Derived.Deep.RegionLaw
import Derived.Deep.RegionHeld3
import Derived.Test.YtcgkfbjdlhapkaaYa23
import Derived.Test.YtcgkfbjdlhapkaaYa15
import Derived.Test.YtcgkfbjdlhapkaaYa12
import Derived.Maps.AppendAt
namespace Go.Proofs.Ytcgkfbjdlhapkaa
open Go.RowKit

section
set_option maxRecDepth 20000
set_option maxHeartbeats 1600000
theorem rng_snoc {p : Nat → Bool} {k : Nat} (h : (List.range k).all p = true) (hp : p k = true) : (List.range (k + 1)).all p = true := by
  rw [List.range_succ, List.all_append, h]; simp [hp]
theorem rng_not {p : Nat → Bool} {k n : Nat} (hk : k < n) (hp : p k = false) : (List.range n).all p = false := by
  cases h : (List.range n).all p with
  | false => rfl
  | true => have := List.all_eq_true.1 h k (List.mem_range.2 hk); rw [hp] at this; cases this
theorem drop_b : ∀ (L : Fin 32) (i : Fin 5), bitB L.val i.val = true → bits .andNot .i64 ((L.val : Nat) : Int) ((2 ^ i.val : Nat) : Int) = ((L.val - 2 ^ i.val : Nat) : Int) := by decide +kernel
theorem wrap_pw5 : ∀ i : Fin 5, IntKind.i64.wrap (2 ^ i.val) = ((2 ^ i.val : Nat) : Int) := by decide +kernel
/-- What the box of a table and the box of a dependency hold. -/
def TDc (w : World) (b : Nat) (c : Int) (v : Value) (l r : Int) : Prop :=
  (w.cell? ⟨b, 0, none⟩ = some (.int .i64 c) ∧ w.cell? ⟨b, 1, none⟩ = some v) ∧ w.cell? ⟨b + 1, 0, none⟩ = some (.int .i64 l) ∧ w.cell? ⟨b + 1, 1, none⟩ = some (.int .i64 r)
theorem TDc.kept {w w' : World} {b : Nat} {c l r : Int} {v : Value} (h : TDc w b c v l r) (hb : Below w.heap.size w w') : TDc w' b c v l r :=
  ⟨⟨(hb.cell (World.block_lt_of_cell? _ _ h.1.1)).trans h.1.1, (hb.cell (World.block_lt_of_cell? _ _ h.1.2)).trans h.1.2⟩, (hb.cell (World.block_lt_of_cell? _ _ h.2.1)).trans h.2.1, (hb.cell (World.block_lt_of_cell? _ _ h.2.2)).trans h.2.2⟩
theorem TDc.mk' (w : World) (T T' : TypeId) (c : Int) (v : Value) (l r : Int) : TDc ((w.alloc (.cells #[.int .i64 c, v] T)).alloc (.cells #[.int .i64 l, .int .i64 r] T')) w.heap.size c v l r := boxTD (Below.refl _ _)
theorem keepTc {w4 w' w'' : World} {b : Nat} {c l r : Int} {v : Value} (h : TDc w' b c v l r ∧ Below w4.heap.size w4 w') (hb : Below w'.heap.size w' w'') : TDc w'' b c v l r ∧ Below w4.heap.size w4 w'' := ⟨h.1.kept hb, h.2.trans (hb.mono h.2.size)⟩
end
section
set_option maxRecDepth 20000
set_option maxHeartbeats 3200000
end
end Go.Proofs.Ytcgkfbjdlhapkaa
namespace Go.Proofs.Ytcgkfbjdlhapkaa
open Go.RowKit

theorem row_at8 {w : World} {B : Nat} {ap : Option Addr} {cap k : Nat} {ps : List Int} (h : OwnI w B (.slice ap ps.length cap) ps) (hk : k < ps.length) : ∃ x, ap = some x ∧ w.cell? (x.add k) = some (.int .i64 (ps.getD k 0)) := by
  obtain ⟨a', cap', hv, hc⟩ := h.read
  cases hv
  obtain ⟨x, e1, e2⟩ := hc k hk
  rw [get_getD ps k hk] at e2
  exact ⟨x, e1, e2⟩
set_option maxHeartbeats 1600000 in
set_option maxRecDepth 20000 in
theorem covered8_any (v : Value) (l : List (Int × Int)) (d0 d1 : Int) (w : World) (hr : ReadD w v l) (hl : l.length ≤ 1048576) :
    Calls Try.prog 49 #[v, .agg #[.int .i64 d0, .int .i64 d1]] w fun e w' => e = .returned (.bool (cvd l (d0, d1))) ∧ Below w.heap.size w w' := by
  have hb1 := (Below.refl w.heap.size w).alloc (Nat.le_refl _) (.cells #[.int .i64 d0, .int .i64 d1] 44)
  obtain ⟨c0, c1⟩ := zero2 w 44 (.int .i64 d0) (.int .i64 d1)
  have HB1 := Lib.hid hb1
  have HC := Lib.hid (And.intro c0 c1)
  obtain ⟨a, cap, rfl, ha⟩ := hr
  have HA := Lib.hid ha
  clear ha hb1 c0 c1
  go_enter Try.func49, Try.ntmps49
  go_wp2_with fail
  go_loopw [5] (fun iv wr => ∃ i : Nat, i ≤ l.length ∧ iv = .int .i64 (i : Int) ∧ Hid (cvTo l (d0, d1) i = false) ∧ Hid (Below (w.alloc (.cells #[.int .i64 d0, .int .i64 d1] 44)).heap.size (w.alloc (.cells #[.int .i64 d0, .int .i64 d1] 44)) wr)) (fun iv _ => l.length - (intOf iv).toNat)
  case atStart => exact ⟨0, by omega, rfl, Lib.hid rfl, Lib.hid (Below.refl _ _)⟩
  case round =>
    obtain ⟨i, hi, rfl, hno, hb⟩ := hrel
    obtain ⟨w1, hw1⟩ : ∃ w', w' = wr := ⟨_, rfl⟩
    rw [← hw1] at hb ⊢
    clear hw1
    by_cases hlt : i < l.length
    · obtain ⟨b, o, rfl, h0, h1⟩ := HA.out i hlt
      have hbw := HB1.out.trans (hb.out.mono HB1.out.size)
      replace h0 := (hbw.cell (World.block_lt_of_cell? w _ h0)).trans h0
      replace h1 := (hbw.cell (World.block_lt_of_cell? w _ h1)).trans h1
      have c0 := (hb.out.cell (World.block_lt_of_cell? _ _ HC.out.1)).trans HC.out.1
      have c1 := (hb.out.cell (World.block_lt_of_cell? _ _ HC.out.2)).trans HC.out.2
      have hS : cvTo l (d0, d1) (i + 1) = (cvTo l (d0, d1) i || ((l.getD i (0, 0)).2 == d1 && (bits .and .i64 (l.getD i (0, 0)).1 d0 == (l.getD i (0, 0)).1))) := rfl
      have hY : (l.getD i (0, 0)).2 = d1 → bits .and .i64 (l.getD i (0, 0)).1 d0 = (l.getD i (0, 0)).1 → cvd l (d0, d1) = true := fun h2 h3 => (cvd_iff _ _).2 ⟨l.getD i (0, 0), by rw [List.getD_eq_getElem?_getD, List.getElem?_eq_getElem hlt]; exact List.getElem_mem hlt, h2, h3⟩
      obtain ⟨⟨y0, y1⟩, hy⟩ : ∃ z, z = l.getD i (0, 0) := ⟨_, rfl⟩
      rw [← hy] at h0 h1 hS hY
      simp only at h0 h1 hS hY
      rw [hno.out, Bool.false_or] at hS
      obtain ⟨e1, he1⟩ : ∃ e1, (y1 == d1) = e1 := ⟨_, rfl⟩
      obtain ⟨e2, he2⟩ : ∃ e2, (bits .and .i64 y0 d0 == y0) = e2 := ⟨_, rfl⟩
      have HY : Hid (e1 = true → e2 = true → cvd l (d0, d1) = true) := Lib.hid (fun q1 q2 => hY (by rw [← beq_iff_eq, he1]; exact q1) (by rw [← beq_iff_eq, he2]; exact q2))
      rw [he1, he2] at hS
      have HS := Lib.hid hS
      have z0 : (0 : Int) ≤ (i : Int) := by omega
      have z1 : (i : Int) < (l.length : Int) := by omega
      clear hy hS hY hbw
      cases e1 with
      | false =>
        go_wp2_with fail
        go_quiet (fail)
        go_wp2_with fail
        go_roundw
        case rel => exact ⟨i + 1, by omega, by go_num, Lib.hid (by rw [HS.out]; rfl), Lib.hid (below_drewN hb.out _)⟩
        case measure => simp [intOf]; omega
      | true =>
        cases e2 with
        | false =>
          go_wp2_with fail
          go_quiet (fail)
          go_wp2_with fail
          go_roundw
          case rel => exact ⟨i + 1, by omega, by go_num, Lib.hid (by rw [HS.out]; rfl), Lib.hid (below_drewN hb.out _)⟩
          case measure => simp [intOf]; omega
        | true =>
          have HE := Lib.hid (HY.out rfl rfl)
          go_wp2_with fail
          go_quiet (fail)
          go_wp2_with fail
          go_ret
          exact ⟨ret_b HE.out, HB1.out.trans ((below_drewN hb.out _).mono HB1.out.size)⟩
    · obtain rfl : i = l.length := by omega
      go_wp2_with fail
      go_ret
      exact ⟨ret_b hno.out, HB1.out.trans (hb.out.mono HB1.out.size)⟩
end Go.Proofs.Ytcgkfbjdlhapkaa
