/- EncodeVarint, the program's and the model's, by contract: both return the shortest little-endian groups of seven bits. Conditions: none (in range; out of range). -/
import Derived.Test.YtcjjlgkimklegaaDoorLeaf
import Derived.Test.YtcjjlgkimklegaaDoorKit
import Derived.Test.YtcjjlgkimklegaaDoorBits
namespace Go.Proofs.YtcjjlgkimklegaaDoor
open Go.RowKit

def vi (n : Nat) : List UInt8 := if h : n < 128 then [UInt8.ofNat n] else UInt8.ofNat (128 + n % 128) :: vi (n / 128)
termination_by n
decreasing_by omega
theorem vi_last {n : Nat} (h : n < 128) : vi n = [UInt8.ofNat n] := by rw [vi, dif_pos h]
theorem vi_more {n : Nat} (h : 128 ≤ n) : vi n = UInt8.ofNat (128 + n % 128) :: vi (n / 128) := by rw [vi, dif_neg (by omega)]

/-- What has been written, and what is left. -/
def VI (n m : Int) (l : List UInt8) : Prop := 0 ≤ m ∧ 100 * (l.length : Int) + m ≤ n ∧ l ++ vi m.toNat = vi n.toNat
theorem VI.start {n : Int} (h : 0 ≤ n) : VI n n [] := ⟨h, by simp, rfl⟩
theorem VI.step {n m : Int} {l : List UInt8} (h : VI n m l) (hm : 128 ≤ m) : VI n (m / 128) (l ++ [UInt8.ofNat (128 + m % 128).toNat]) := by
  obtain ⟨h1, h2, h3⟩ := h
  refine ⟨by omega, by simp; omega, ?_⟩
  rw [← h3, vi_more (n := m.toNat) (by omega), List.append_assoc, List.singleton_append]
  rw [show (128 + m % 128).toNat = 128 + m.toNat % 128 by omega, show (m / 128).toNat = m.toNat / 128 by omega]
theorem VI.fin {n m : Int} {l : List UInt8} (h : VI n m l) (hm : m < 128) : l ++ [UInt8.ofNat m.toNat] = vi n.toNat := by
  rw [← h.2.2, vi_last (by have := h.1; omega)]

def viB (n : Int) : ByteArray := ⟨(vi n.toNat).toArray⟩
theorem info8v : (Tryd.prog.info? 5).map (fun i => (i.zero, i.size, i.bytes)) = some (some (.int .u8 0), 1, 1) := by kernel_rfl

theorem implEV_none (n : Int) (w : World) (h : ¬ (0 ≤ n ∧ n ≤ 562949953421311)) :
    Calls Tryd.prog 9 #[.int .i64 n] w fun e w' => e = .returned (.string ⟨#[]⟩) ∧ w = w' := by
  by_cases h0 : n < 0
  all_goals
    go_enter Tryd.func9, Tryd.ntmps9
    go_wp2_with fail
    go_ret
    exact ⟨rfl, rfl⟩

set_option maxHeartbeats 400000 in
theorem implEV (n : Int) (w : World) (h0 : 0 ≤ n) (h1 : n ≤ 562949953421311) :
    Calls Tryd.prog 9 #[.int .i64 n] w fun e w' => e = .returned (.string (viB n)) ∧ Below w.heap.size w w' := by
  obtain ⟨i0, hi, hz0, hz1, hz2⟩ := info_parts info8v
  have HI : Hid (_ ∧ _ ∧ _ ∧ _) := Lib.hid ⟨hi, hz0, hz1, hz2⟩
  clear hi hz0 hz1 hz2
  go_enter Tryd.func9, Tryd.ntmps9
  go_wp2_with (at_make; refine wpList_make_own _ rfl _ _ 22 rfl w.heap.size 5 i0 (.int .u8 0) 1 Tryd.underlying22 HI.out.1 HI.out.2.1 HI.out.2.2.1 .i64 .i64 _ 7 rfl rfl rfl (by rw [HI.out.2.2.2]; omega) (by unfold maxLen; omega) (Nat.le_refl _) ?_; intro w0 hown0 hgrow0)
  have hb0 := (Below.refl w.heap.size w).grown hgrow0 (Nat.le_refl _) (by simp)
  have hown := OwnB.made hown0
  clear hown0 hgrow0
  go_loopw [0, 3] (fun nn v wr => ∃ (m : Int) (l : List UInt8), nn = .int .i64 m ∧ OwnB wr w.heap.size 5 v l ∧ VI n m l ∧ Below w.heap.size w wr) (fun nn _ _ => (intOf nn).toNat)
  case atStart => exact ⟨n, [], rfl, hown, VI.start h0, hb0⟩
  case round =>
    obtain ⟨m, l, rfl, ho, hv, hb⟩ := hrel
    have q1 := hv.1
    have q2 := hv.2.1
    by_cases hm : 128 ≤ m
    · have hbits : bits .or .i64 (bits .and .i64 m 127) 128 = 128 + m % 128 := by
        rw [i64_and_127 q1 (by omega), i64_or_low 7 (by omega) (by omega) (by omega) (by omega) (by omega) (by omega)]; omega
      go_wp2_with (at_builtin; refine wpList_append_own _ rfl _ _ 22 rfl w.heap.size 5 i0 (.int .u8 0) 1 1 Tryd.underlying22 HI.out.1 HI.out.2.1 HI.out.2.2.1 HI.out.2.2.2 rfl (by decide) _ _ _ rfl (World.ownsRow.alloc ho _) ⟨wr.heap.size, 0, none⟩ 1 1 [.int .u8 (128 + m % 128)] rfl rfl (cell_one_new _ _ _) (one_u8 _) (by unfold maxLen; omega) (by omega) (le_alloc hb (Nat.le_refl _) _) ?_; intro v' w1 hown' hgrow _)
      have ho' := OwnB.snoc (by omega) (by omega) hown'
      have hb' := (hb.alloc hb.size (.cells #[.int .u8 (128 + m % 128)] 5)).grown hgrow (by simp; have := hb.size; omega) (fun k hk => (OwnB.lt ho k hk).1)
      clear hown' hgrow
      go_wp2_with fail
      go_roundw
      case rel => exact ⟨_, _, rfl, ho', hv.step hm, hb'⟩
      case measure => simp [intOf]; omega
    · have hconv := fun (wx : World) (v : Value) (x : List UInt8) (h : OwnB wx w.heap.size 5 v x) => OwnB.conv (P := Tryd.prog) Tryd.underlying22 Tryd.underlying5 Tryd.underlying9 h
      have HC := Lib.hid hconv
      clear hconv
      go_wp2_with (at_builtin; refine wpList_append_own _ rfl _ _ 22 rfl w.heap.size 5 i0 (.int .u8 0) 1 1 Tryd.underlying22 HI.out.1 HI.out.2.1 HI.out.2.2.1 HI.out.2.2.2 rfl (by decide) _ _ _ rfl (World.ownsRow.alloc ho _) ⟨wr.heap.size, 0, none⟩ 1 1 [.int .u8 m] rfl rfl (cell_one_new _ _ _) (one_u8 _) (by unfold maxLen; omega) (by omega) (le_alloc hb (Nat.le_refl _) _) ?_; intro v' w1 hown' hgrow _; have ho' := OwnB.snoc (by omega) (by omega) hown'; have hc := HC.out w1 v' _ ho')
      have hb' := (hb.alloc hb.size (.cells #[.int .u8 m] 5)).grown hgrow (by simp; have := hb.size; omega) (fun k hk => (OwnB.lt ho k hk).1)
      go_ret
      exact ⟨ret_s (by unfold viB; rw [hv.fin (by omega)]), hb'⟩
end Go.Proofs.YtcjjlgkimklegaaDoor
