/- EncodeHex, the program's and the model's, by contract: both return two digits for each byte. Conditions: at most 2^20 bytes. -/
import Derived.Test.YtcjjlgkimklegaaDoorHexLeaf
import Derived.Test.YtcjjlgkimklegaaDoorBits
import Derived.Deep.RegionHeld3
import Derived.Deep.AppendLies
namespace Go.Proofs.YtcjjlgkimklegaaDoor
open Go.RowKit

def hx (b : UInt8) : List UInt8 := [UInt8.ofNat (hexN ((b.toNat : Int) / 16)).toNat, UInt8.ofNat (hexN ((b.toNat : Int) % 16)).toNat]
theorem byte_wrap (b : UInt8) : IntKind.i64.wrap (b.toNat : Int) = (b.toNat : Int) := by have := b.toNat_lt; exact IntWalk.i64_in _ (by omega)
theorem byte_hi (b : UInt8) : IntKind.i64.wrap ((b.toNat : Int).tdiv 16) = (b.toNat : Int) / 16 := by
  have := b.toNat_lt
  rw [Int.tdiv_eq_ediv_of_nonneg (by omega)]; exact IntWalk.i64_in _ (by omega)
theorem byte_hi' (b : UInt8) : IntKind.i64.wrap ((b.toNat : Int) / 16) = (b.toNat : Int) / 16 := by
  have := b.toNat_lt
  exact IntWalk.i64_in _ (by omega)
theorem byte_lo (b : UInt8) : (b.toNat : Int).tmod 16 = (b.toNat : Int) % 16 := by
  rw [Int.tmod_eq_emod_of_nonneg (by omega)]
def hexL (l : List UInt8) : List UInt8 := l.flatMap hx
theorem hexL_length (l : List UInt8) : (hexL l).length = 2 * l.length := by
  induction l with
  | nil => rfl
  | cons b l ih => simp [hexL, hx] at ih ⊢; omega
theorem take_succ_str (s : ByteArray) (k : Nat) (h : k < s.size) : s.data.toList.take (k + 1) = s.data.toList.take k ++ [s[k]] := by
  rw [List.take_succ_eq_append_getElem (by simpa using h)]; rfl
theorem hexL_snoc (s : ByteArray) (k : Nat) (h : k < s.size) : hexL (s.data.toList.take (k + 1)) = hexL (s.data.toList.take k) ++ hx s[k] := by
  rw [take_succ_str s k h]; simp [hexL]
def hexB (s : ByteArray) : ByteArray := ⟨(hexL s.data.toList).toArray⟩
theorem hexL_take_length (s : ByteArray) (k : Nat) (h : k ≤ s.size) : (hexL (s.data.toList.take k)).length = 2 * k := by
  rw [hexL_length, List.length_take, Nat.min_eq_left (by rw [← str_size]; exact h)]

theorem hex_hi (b : UInt8) : 48 ≤ hexN ((b.toNat : Int) / 16) ∧ hexN ((b.toNat : Int) / 16) ≤ 102 := by
  have := b.toNat_lt
  exact hexN_bd (by omega) (by omega)
theorem hex_lo (b : UInt8) : 48 ≤ hexN ((b.toNat : Int) % 16) ∧ hexN ((b.toNat : Int) % 16) ≤ 102 := by
  exact hexN_bd (by omega) (by omega)
theorem info8h : (Tryd.prog.info? 5).map (fun i => (i.zero, i.size, i.bytes)) = some (some (.int .u8 0), 1, 1) := by kernel_rfl

theorem idx_hex (x : Int) (h0 : 0 ≤ x) (h1 : x ≤ 15) (w : World) :
    (Instr.index 9 (.string ⟨#[48, 49, 50, 51, 52, 53, 54, 55, 56, 57, 97, 98, 99, 100, 101, 102]⟩) (.int .u8 x)).run Tryd.prog w = .ok (.int .u8 (hexN x)) w := by
  have h : x = 0 ∨ x = 1 ∨ x = 2 ∨ x = 3 ∨ x = 4 ∨ x = 5 ∨ x = 6 ∨ x = 7 ∨ x = 8 ∨ x = 9 ∨ x = 10 ∨ x = 11 ∨ x = 12 ∨ x = 13 ∨ x = 14 ∨ x = 15 := by omega
  clear h0 h1
  rcases h with rfl | rfl | rfl | rfl | rfl | rfl | rfl | rfl | rfl | rfl | rfl | rfl | rfl | rfl | rfl | rfl <;> (show _ = _; kernel_rfl)
set_option maxHeartbeats 800000 in
theorem implEH (s : ByteArray) (w : World) (hs : s.size ≤ 1048576) :
    Calls Tryd.prog 15 #[.string s] w fun e w' => e = .returned (.string (hexB s)) ∧ Below w.heap.size w w' := by
  obtain ⟨i0, hi, hz0, hz1, hz2⟩ := info_parts info8h
  have HI : Hid (_ ∧ _ ∧ _ ∧ _) := Lib.hid ⟨hi, hz0, hz1, hz2⟩
  clear hi hz0 hz1 hz2
  go_enter Tryd.func15, Tryd.ntmps15
  go_wp2_with (at_make; refine wpList_make_own _ rfl _ _ 22 rfl w.heap.size 5 i0 (.int .u8 0) 1 Tryd.underlying22 HI.out.1 HI.out.2.1 HI.out.2.2.1 .i64 .i64 _ (2 * s.size) rfl rfl (by omega) (by rw [HI.out.2.2.2]; omega) (by unfold maxLen; omega) (Nat.le_refl _) ?_; intro w0 hown0 hgrow0)
  have hb0 := (Below.refl w.heap.size w).grown hgrow0 (Nat.le_refl _) (by simp)
  have hown := OwnB.made hown0
  clear hown0 hgrow0
  go_loopw [3, 4] (fun v i wr => ∃ (k : Nat) (l : List UInt8), k ≤ s.size ∧ i = .int .i64 (k : Int) ∧ Hid (l = hexL (s.data.toList.take k)) ∧ OwnB wr w.heap.size 5 v l ∧ Below w.heap.size w wr) (fun _ i _ => s.size - (intOf i).toNat)
  case atStart => exact ⟨0, [], by omega, rfl, Lib.hid rfl, hown, hb0⟩
  case round =>
    obtain ⟨k, l, hk, rfl, hl, ho, hb⟩ := hrel
    by_cases hlt : k < s.size
    · have z0 : (0 : Int) ≤ (k : Int) := by omega
      have z1 : (k : Int) < (s.size : Int) := by omega
      have hll : l.length ≤ 2097152 := by rw [hl.out, hexL_take_length s k hk]; omega
      have e3 : bits .and .u8 (s[k].toNat : Int) 15 = (s[k].toNat : Int) % 16 := by have := s[k].toNat_lt; exact u8_and_15 (by omega) (by omega)
      have x1 := idx_hex ((s[k].toNat : Int) / 16) (by omega) (by have := s[k].toNat_lt; omega)
      have x2 := idx_hex ((s[k].toNat : Int) % 16) (by omega) (by omega)
      have e4 : (s[k].toNat : Int) ≤ 255 := by have := s[k].toNat_lt; omega
      go_wp2_with fail
      go_region_held3 (fun _ => True) (exact trivial) (first | (refine step_append_lies _ (by rfl) _ _ _ (by rfl) w.heap.size 5 i0 (.int .u8 0) 1 1 Tryd.underlying22 HI.out.1 HI.out.2.1 HI.out.2.2.1 HI.out.2.2.2 rfl (by decide) _ _ _ (by rfl) (World.ownsRow.alloc ho _).drew ⟨wr.heap.size, 0, none⟩ 2 2 [.int .u8 (hexN ((s[k].toNat : Int) / 16)), .int .u8 (hexN ((s[k].toNat : Int) % 16))] (by rfl) (by rfl) (World.news_of_block (cs := #[.int .u8 (hexN ((s[k].toNat : Int) / 16)), .int .u8 (hexN ((s[k].toNat : Int) % 16))]) (t := 5) (fr := (0, 0)) (heap_alloc_new wr _)) (two_u8 _ _) (by omega) (by unfold maxLen; omega) (by omega) (le_alloc hb (Nat.le_refl _) _) (wr.heap.size + 1) (by simp) ?_; intro gg cap w1 hown1 hgrow hat hltg))
      all_goals
        have ho' := OwnB.snoc2 (by have := hex_hi s[k]; omega) (by have := hex_hi s[k]; omega) (by have := hex_lo s[k]; omega) (by have := hex_lo s[k]; omega) hown1
        have hb' := (hb.alloc hb.size _).drew.grown hgrow (le_alloc hb (Nat.le_refl _) _) (fun k hk => (OwnB.lt ho k hk).1)
        clear hown1 hgrow hat hltg x1 x2 e3 e4
        go_wp2_with fail
        go_roundw
        case rel => exact ⟨k + 1, _, by omega, by go_num, Lib.hid (by rw [hexL_snoc s k hlt, ← hl.out]; rfl), ho', hb'⟩
        case measure => simp [intOf]; omega
    · have hconv := fun (wx : World) (v : Value) (x : List UInt8) (h : OwnB wx w.heap.size 5 v x) => OwnB.conv (P := Tryd.prog) Tryd.underlying22 Tryd.underlying5 Tryd.underlying9 h
      have hc := hconv wr _ l ho
      clear hconv
      go_wp2_with fail
      go_ret
      obtain rfl : k = s.size := by omega
      exact ⟨ret_s (by unfold hexB; rw [hl.out, List.take_of_length_le (by rw [← str_size]; omega)]), hb⟩
end Go.Proofs.YtcjjlgkimklegaaDoor
