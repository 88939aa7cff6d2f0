/- Texts of this claim, merged: DepG. Conditions: as stated. -/
import Derived.Test.YtficnbeciohpfaaSg16
namespace Go.Proofs.Ytficnbeciohpfaa
open Go.RowKit

/-- The slice value v can be read: it holds these dependencies. -/
def ReadD (w : World) (v : Value) (ds : List (Int × Int)) : Prop :=
  ∃ (a : Option Addr) (cap : Nat), v = .slice a ds.length cap ∧ ∀ i, i < ds.length → ∃ b o, a = some ⟨b, o, none⟩ ∧ w.cell? ⟨b, o + i * 2, none⟩ = some (.int .i64 (ds.getD i (0, 0)).1) ∧ w.cell? ⟨b, o + i * 2 + 1, none⟩ = some (.int .i64 (ds.getD i (0, 0)).2)
set_option maxHeartbeats 800000 in
theorem sameDeps_any (v v' : Value) (d e : List (Int × Int)) (w : World) (hr : ReadD w v d) (hr' : ReadD w v' e) (hl : d.length ≤ 1048576) :
    Calls Try.prog 28 #[v, v'] w fun e' w' => e' = .returned (.bool (decide (d = e))) ∧ Below w.heap.size w w' := by
  obtain ⟨p, cap, rfl, ha⟩ := hr
  obtain ⟨p', cap', rfl, ha'⟩ := hr'
  have HA := Lib.hid ha
  have HA' := Lib.hid ha'
  clear ha ha'
  by_cases hlen : d.length = e.length
  · have HLE := Lib.hid hlen
    clear hlen
    have hne : ((d.length : Int) != (e.length : Int)) = false := by rw [HLE.out]; simp
    go_enter Try.func28, Try.ntmps28
    go_wp2_with fail
    go_loopw [5] (fun iv wr => ∃ i : Nat, i ≤ d.length ∧ iv = .int .i64 (i : Int) ∧ Hid (d.take i = e.take i) ∧ Below w.heap.size w wr) (fun iv _ => d.length - (intOf iv).toNat)
    case atStart => exact ⟨0, by omega, rfl, Lib.hid (by simp), Below.refl _ _⟩
    case round =>
      obtain ⟨i, hi, rfl, HT, hb⟩ := hrel
      by_cases hlt : i < d.length
      · obtain ⟨b, o, rfl, h0, h1⟩ := HA.out i hlt
        have hle2 : i < e.length := by rw [← HLE.out]; exact hlt
        obtain ⟨b', o', rfl, h0', h1'⟩ := HA'.out i hle2
        replace h0 := (hb.cell (World.block_lt_of_cell? w _ h0)).trans h0
        replace h1 := (hb.cell (World.block_lt_of_cell? w _ h1)).trans h1
        replace h0' := (hb.cell (World.block_lt_of_cell? w _ h0')).trans h0'
        replace h1' := (hb.cell (World.block_lt_of_cell? w _ h1')).trans h1'
        have z0 : (0 : Int) ≤ (i : Int) := by omega
        have z1 : (i : Int) < (d.length : Int) := by omega
        have z2 : (i : Int) < (e.length : Int) := Int.ofNat_lt.2 hle2
        have HX := Lib.hid (take_succ_getD d (0, 0) i hlt)
        have HY := Lib.hid (take_succ_getD e (0, 0) i hle2)
        obtain ⟨⟨x0, x1⟩, hx⟩ : ∃ z, z = d.getD i (0, 0) := ⟨_, rfl⟩
        obtain ⟨⟨y0, y1⟩, hy⟩ : ∃ z, z = e.getD i (0, 0) := ⟨_, rfl⟩
        rw [← hx] at h0 h1 HX
        rw [← hy] at h0' h1' HY
        simp only at h0 h1 h0' h1'
        by_cases he : x0 = y0 ∧ x1 = y1
        · obtain ⟨rfl, rfl⟩ := he
          have HN : Hid (d.take (i + 1) = e.take (i + 1)) := Lib.hid (by rw [HX.out, HY.out, HT.out])
          go_wp2_with fail
          go_region
          go_wp2_with fail
          go_roundw
          case rel => exact ⟨i + 1, by omega, by go_num, HN, hb.drew⟩
          case measure => simp [intOf]; omega
        · have HN : Hid (decide (d = e) = false) := Lib.hid (decide_eq_false fun h => he (by
            subst h
            rw [← hx] at hy
            cases hy; exact ⟨rfl, rfl⟩))
          by_cases he0 : x0 = y0
          · have he1 : ¬ x1 = y1 := fun h => he ⟨he0, h⟩
            clear he hx hy
            go_wp2_with fail
            go_region
            go_wp2_with fail
            go_ret
            exact ⟨ret_b HN.out, hb.drew⟩
          · clear he hx hy
            go_wp2_with fail
            go_region
            go_wp2_with fail
            go_ret
            exact ⟨ret_b HN.out, hb.drew⟩
      · obtain rfl : i = d.length := by omega
        have HN : Hid (decide (d = e) = true) := Lib.hid (decide_eq_true (by
          have h := HT.out
          rw [List.take_length, HLE.out, List.take_length] at h
          exact h))
        go_wp2_with fail
        go_ret
        exact ⟨ret_b HN.out, hb⟩
  · have HN : Hid (decide (d = e) = false) := Lib.hid (decide_eq_false fun h => hlen (by rw [h]))
    have hne : ((d.length : Int) != (e.length : Int)) = true := by rw [bne_iff_ne]; omega
    clear hlen
    go_enter Try.func28, Try.ntmps28
    go_wp2_with fail
    go_ret
    exact ⟨ret_b HN.out, Below.refl _ _⟩
end Go.Proofs.Ytficnbeciohpfaa
