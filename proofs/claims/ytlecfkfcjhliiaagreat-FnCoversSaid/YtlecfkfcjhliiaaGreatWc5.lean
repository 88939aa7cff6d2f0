/- Texts of this claim, merged: SpecT2, Sets2, Sets3, Sets4, Sets5. Conditions: as stated. -/
import Derived.Test.YtlecfkfcjhliiaaGreatWc4
import Derived.Test.YtlecfkfcjhliiaaGreatWc2
namespace Go.Proofs.YtlecfkfcjhliiaaGreat
open Go.RowKit

/-- The cells of two boxed tables, later. -/
theorem box4 {w wr : World} {c c' : Int} {v v' : Value} {T : TypeId} (hb : Below ((w.alloc (.cells #[.int .i64 c, v] T)).alloc (.cells #[.int .i64 c', v'] T)).heap.size ((w.alloc (.cells #[.int .i64 c, v] T)).alloc (.cells #[.int .i64 c', v'] T)) wr) :
    (wr.cell? ⟨w.heap.size, 0, none⟩ = some (.int .i64 c) ∧ wr.cell? ⟨w.heap.size, 1, none⟩ = some v) ∧ wr.cell? ⟨w.heap.size + 1, 0, none⟩ = some (.int .i64 c') ∧ wr.cell? ⟨w.heap.size + 1, 1, none⟩ = some v' := by
  have h1 := box2 (w := w) ((Below.refl _ _).alloc (Nat.le_refl _) (.cells #[.int .i64 c', v'] T) |>.trans (hb.mono (by simp)))
  have h2 := box2 (w := w.alloc (.cells #[.int .i64 c, v] T)) hb
  exact ⟨h1, by simpa using h2⟩
/-- What is held of a region in which tables are loaded and copied: the cells of two boxes, and the second table's rows. -/
theorem keepT {w5 w6 w7 : World} {p q r t : Addr} {u0 u1 u2 u3 : Value} {vx : Value} {ll : List (List Int)} (h : (w6.cell? p = some u0 ∧ w6.cell? q = some u1) ∧ (w6.cell? r = some u2 ∧ w6.cell? t = some u3) ∧ ReadSS w6 vx ll ∧ Below w5.heap.size w5 w6) (hb : Below w6.heap.size w6 w7) :
    (w7.cell? p = some u0 ∧ w7.cell? q = some u1) ∧ (w7.cell? r = some u2 ∧ w7.cell? t = some u3) ∧ ReadSS w7 vx ll ∧ Below w5.heap.size w5 w7 := by
  have k : ∀ {a : Addr} {u : Value}, w6.cell? a = some u → w7.cell? a = some u := fun e => (hb.cell (World.block_lt_of_cell? w6 _ e)).trans e
  exact ⟨⟨k h.1.1, k h.1.2⟩, ⟨k h.2.1.1, k h.2.1.2⟩, h.2.2.1.kept hb, h.2.2.2.trans (hb.mono h.2.2.2.size)⟩
theorem keepQ {w5 w6 w7 : World} {p q r t : Addr} {u0 u1 u2 u3 : Value} (h : ((w6.cell? p = some u0 ∧ w6.cell? q = some u1) ∧ w6.cell? r = some u2 ∧ w6.cell? t = some u3) ∧ Below w5.heap.size w5 w6) (hb : Below w6.heap.size w6 w7) :
    ((w7.cell? p = some u0 ∧ w7.cell? q = some u1) ∧ w7.cell? r = some u2 ∧ w7.cell? t = some u3) ∧ Below w5.heap.size w5 w7 := by
  have k : ∀ {a : Addr} {u : Value}, w6.cell? a = some u → w7.cell? a = some u := fun e => (hb.cell (World.block_lt_of_cell? w6 _ e)).trans e
  exact ⟨⟨⟨k h.1.1.1, k h.1.1.2⟩, k h.1.2.1, k h.1.2.2⟩, h.2.trans (hb.mono h.2.size)⟩
end Go.Proofs.YtlecfkfcjhliiaaGreat
namespace Go.Proofs.YtlecfkfcjhliiaaGreat
open Go.RowKit

def cnt (x : Int) : Nat := (mems x).length
theorem cnt_le (x : Int) : cnt x ≤ 5 := mems_len x
theorem countS_any (x : Int) (w : World) :
    Calls Tryz.prog 72 #[.int .i64 x] w fun e w' => e = .returned (.int .i64 (cnt x : Int)) ∧ Below w.heap.size w w' := by
  go_enter Tryz.func72, Tryz.ntmps72
  go_wp2_with fail
  refine (membersS_any x _).mono ?_
  rintro e w' ⟨v, rfl, ho, hb⟩
  obtain ⟨a, cap, rfl, _⟩ := ho.read
  go_wp2_with fail
  go_ret
  exact ⟨rfl, hb⟩
def partB (x y : Int) : Bool := valB x && valB y && (bits .and .i64 x y == x)
/-- The sets below m with s columns. -/
def ofSize (s m : Nat) : List Int := ((List.range m).filter fun (x : Nat) => cnt (x : Int) == s).map fun (i : Nat) => (i : Int)
theorem ofSize_succ (s m : Nat) : ofSize s (m + 1) = if (cnt (m : Int) == s) = true then ofSize s m ++ [(m : Int)] else ofSize s m := by
  unfold ofSize
  rw [List.range_succ, List.filter_append, List.map_append]
  by_cases h : (cnt (m : Int) == s) = true
  · rw [if_pos h]; simp [h]
  · rw [if_neg h]; simp [h]
theorem ofSize_len (s m : Nat) : (ofSize s m).length ≤ m := by
  have := List.length_filter_le (fun (x : Nat) => cnt (x : Int) == s) (List.range m)
  simpa [ofSize] using this
def bySize (N s : Nat) : List Int := (List.range s).flatMap fun i => ofSize i (2 ^ N)
theorem bySize_succ (N s : Nat) : bySize N (s + 1) = bySize N s ++ ofSize s (2 ^ N) := by simp [bySize, List.range_succ]
theorem bySize_len (N s : Nat) : (bySize N s).length ≤ s * 2 ^ N := by
  induction s with
  | zero => simp [bySize]
  | succ s ih => rw [bySize_succ, List.length_append, Nat.succ_mul]; have := ofSize_len s (2 ^ N); omega
/-- All sets of the first n columns, by size. -/
def parts (n : Int) : List Int := if 0 ≤ n ∧ n ≤ 5 then bySize n.toNat (n.toNat + 1) else []
theorem parts_len (n : Int) : (parts n).length ≤ 1000 := by
  unfold parts
  split
  · rename_i h
    have a1 := bySize_len n.toNat (n.toNat + 1)
    have a2 : (2 : Nat) ^ n.toNat ≤ 2 ^ 5 := Nat.pow_le_pow_right (by omega) (by omega)
    have a3 : (n.toNat + 1) * 2 ^ n.toNat ≤ 6 * 32 := Nat.mul_le_mul (by omega) a2
    omega
  · simp

set_option maxHeartbeats 1600000 in
theorem partsS_any (n : Int) (w : World) :
    Calls Tryz.prog 37 #[.int .i64 n] w (RetI (parts n) w) := by
  obtain ⟨i0, hi, hz0, hz1, hz2⟩ := info_parts info3i
  have HI : Hid (_ ∧ _ ∧ _ ∧ _) := Lib.hid ⟨hi, hz0, hz1, hz2⟩
  clear hi hz0 hz1 hz2
  by_cases hn : 0 ≤ n ∧ n ≤ 5
  · obtain ⟨N, rfl⟩ : ∃ N : Nat, n = (N : Int) := ⟨n.toNat, by omega⟩
    have hN : N ≤ 5 := by omega
    have h1 : decide (0 ≤ (N : Int) ∧ (N : Int) ≤ 5) = true := by simp; omega
    have HE : Hid (parts (N : Int) = bySize N (N + 1)) := Lib.hid (by unfold parts; rw [if_pos hn]; rfl)
    obtain ⟨M, hM, hM31⟩ : ∃ M : Nat, M + 1 = 2 ^ N ∧ M ≤ 31 := by
      have : 2 ^ N ≤ 2 ^ 5 := Nat.pow_le_pow_right (by omega) hN
      have : 0 < 2 ^ N := Nat.pow_pos (by omega)
      exact ⟨2 ^ N - 1, by omega, by omega⟩
    have HM := Lib.hid hM
    have HA : Hid (∀ w, Calls Tryz.prog 34 #[.int .i64 (N : Int)] w fun e w' => e = .returned (.int .i64 (M : Int)) ∧ w = w') :=
      Lib.hid fun w => (all_any (N : Int) w hn.1 hn.2).mono fun _ _ ⟨a, b⟩ => ⟨by
        rw [a, show (N : Int).toNat = N from rfl, show ((2 : Int) ^ N - 1) = (M : Int) by
          have h3 : ((2 ^ N : Nat) : Int) = (2 : Int) ^ N := by rw [Int.natCast_pow]; rfl
          omega], b⟩
    have HIN : Hid (∀ w, Calls Tryz.prog 33 #[.int .i64 (N : Int), .int .i64 0, .int .i64 5] w fun e w' => e = .returned (.bool true) ∧ w = w') := Lib.hid fun w => (in_any (N : Int) 0 5 w).mono fun _ _ ⟨a, b⟩ => ⟨by rw [a, h1], b⟩
    clear hM hn
    go_enter Tryz.func37, Tryz.ntmps37
    go_wp2_with fail
    go_loopw [3, 4] (fun ov sv wr => ∃ (s : Nat) (l : List Int), s ≤ N + 1 ∧ sv = .int .i64 (s : Int) ∧ Hid (l = bySize N s) ∧ OwnI wr w.heap.size ov l ∧ Below w.heap.size w wr) (fun _ sv _ => (N + 1 - intOf sv).toNat)
    case atStart => exact ⟨0, [], by omega, rfl, Lib.hid rfl, OwnI.made (World.ownsRow_made w #[] 0 (Nat.le_refl _) (by unfold maxLen; omega) rfl), (Below.refl _ _).alloc (Nat.le_refl _) _⟩
    case round =>
      obtain ⟨s, l, hs, rfl, hl, ho, hb⟩ := hrel
      by_cases hlt : s ≤ N
      · go_wp2_with fail
        refine (HIN.out _).mono ?_
        rintro e w' ⟨rfl, rfl⟩
        go_wp2_with fail
        obtain ⟨wo, rfl⟩ : ∃ wo : World, wo = wr := ⟨_, rfl⟩
        go_loopw [3, 5] (fun ov xv wr => ∃ (x : Nat) (l2 : List Int), x ≤ M + 1 ∧ xv = .int .i64 (x : Int) ∧ Hid (l2 = l ++ ofSize s x) ∧ OwnI wr w.heap.size ov l2 ∧ Below w.heap.size w wr) (fun _ xv _ => (M + 1 - intOf xv).toNat)
        case atStart => exact ⟨0, l, by omega, rfl, Lib.hid (by simp [ofSize]), ho, hb⟩
        case round =>
          clear ho hb
          obtain ⟨x, l2, hx, rfl, hl2, ho, hb⟩ := hrel
          have hll : l2.length ≤ 1000 := by
            rw [hl2.out, List.length_append, hl.out]
            have a1 := bySize_len N s
            have a2 := ofSize_len s x
            have a3 : s * 2 ^ N ≤ 5 * 32 := Nat.mul_le_mul (by omega) (by have := HM.out; omega)
            omega
          by_cases hxm : x ≤ M
          · by_cases hc : cnt (x : Int) = s
            · have heq : ((cnt (x : Int) : Int) == (s : Int)) = true := by simp [hc]
              have HCN := Lib.hid hc
              clear hc
              go_wp2_with fail
              refine (HA.out _).mono ?_
              rintro e w' ⟨rfl, rfl⟩
              go_wp2_with fail
              refine (countS_any _ _).mono ?_
              rintro e w1 ⟨rfl, hb1'⟩
              have ho1 := ho.kept hb1' (fun k hk => (OwnI.lt ho k hk).2)
              have hb1 := hb.trans (hb1'.mono hb.size)
              clear ho hb hb1'
              go_wp2_with (at_builtin; refine wpList_append_own _ rfl _ _ 29 rfl w.heap.size 3 i0 (.int .i64 0) 1 8 Tryz.underlying29 HI.out.1 HI.out.2.1 HI.out.2.2.1 HI.out.2.2.2 rfl (by decide) _ _ _ rfl (World.ownsRow.alloc ho1 _) ⟨w1.heap.size, 0, none⟩ 1 1 [.int .i64 (x : Int)] rfl rfl (cell_one_new _ _ _) (one_i64 _) (by unfold maxLen; omega) (by omega) (le_alloc hb1 (Nat.le_refl _) _) ?_; intro v' w2 hown' hgrow _)
              have ho' := OwnI.snoc hown'
              have hb' := (hb1.alloc hb1.size (.cells #[.int .i64 (x : Int)] 3)).grown hgrow (by simp; have := hb1.size; omega) (fun k hk => (OwnI.lt ho1 k hk).1)
              clear hown' hgrow
              go_wp2_with fail
              go_roundw
              case rel => exact ⟨x + 1, _, by omega, by go_num, Lib.hid (by rw [ofSize_succ, if_pos (by simp [HCN.out]), hl2.out, List.append_assoc]), ho', hb'⟩
              case measure => simp [intOf]; omega
            · have heq : ((cnt (x : Int) : Int) == (s : Int)) = false := by simp; omega
              have HCN := Lib.hid hc
              clear hc
              go_wp2_with fail
              refine (HA.out _).mono ?_
              rintro e w' ⟨rfl, rfl⟩
              go_wp2_with fail
              refine (countS_any _ _).mono ?_
              rintro e w1 ⟨rfl, hb1'⟩
              have ho1 := ho.kept hb1' (fun k hk => (OwnI.lt ho k hk).2)
              have hb1 := hb.trans (hb1'.mono hb.size)
              clear ho hb hb1'
              go_wp2_with fail
              go_roundw
              case rel => exact ⟨x + 1, _, by omega, by go_num, Lib.hid (by rw [ofSize_succ, if_neg (by simp [HCN.out]), hl2.out]), ho1, hb1⟩
              case measure => simp [intOf]; omega
          · obtain rfl : x = M + 1 := by omega
            go_wp2_with fail
            refine (HA.out _).mono ?_
            rintro e w' ⟨rfl, rfl⟩
            go_wp2_with fail
            go_roundw
            case rel => exact ⟨s + 1, _, by omega, by go_num, Lib.hid (by rw [bySize_succ, hl2.out, hl.out, HM.out]), ho, hb⟩
            case measure => simp [intOf]; omega
      · obtain rfl : s = N + 1 := by omega
        go_wp2_with fail
        go_ret
        exact ⟨_, rfl, by rw [HE.out, ← hl.out]; exact ho, hb⟩
  · have h1 : decide (0 ≤ n ∧ n ≤ 5) = false := by simp only [hn, decide_false]
    have HE : Hid (parts n = []) := Lib.hid (by unfold parts; rw [if_neg hn])
    have HIN : Hid (∀ w, Calls Tryz.prog 33 #[.int .i64 n, .int .i64 0, .int .i64 5] w fun e w' => e = .returned (.bool false) ∧ w = w') := Lib.hid fun w => (in_any n 0 5 w).mono fun _ _ ⟨a, b⟩ => ⟨by rw [a, h1], b⟩
    clear hn
    by_cases h0 : 0 ≤ n
    · go_enter Tryz.func37, Tryz.ntmps37
      go_wp2_with fail
      refine wp_loop_rounds 1 ?_
      rw [rounds_succ]
      go_wp2_with fail
      refine (HIN.out _).mono ?_
      rintro e w' ⟨rfl, rfl⟩
      go_wp2_with fail
      go_ret
      exact ⟨_, rfl, by rw [HE.out]; exact OwnI.made (World.ownsRow_made w #[] 0 (Nat.le_refl _) (by unfold maxLen; omega) rfl), (Below.refl _ _).alloc (Nat.le_refl _) _⟩
    · go_enter Tryz.func37, Tryz.ntmps37
      go_wp2_with fail
      refine wp_loop_rounds 1 ?_
      rw [rounds_succ]
      go_wp2_with fail
      go_ret
      exact ⟨_, rfl, by rw [HE.out]; exact OwnI.made (World.ownsRow_made w #[] 0 (Nat.le_refl _) (by unfold maxLen; omega) rfl), (Below.refl _ _).alloc (Nat.le_refl _) _⟩
end Go.Proofs.YtlecfkfcjhliiaaGreat
namespace Go.Proofs.YtlecfkfcjhliiaaGreat
open Go.RowKit

/-- The letters of the first k columns that X has. -/
def lets (X k : Nat) : List UInt8 := ((List.range k).filter (bitB X)).map fun (i : Nat) => UInt8.ofNat (65 + i)
theorem lets_succ (X k : Nat) : lets X (k + 1) = if bitB X k = true then lets X k ++ [UInt8.ofNat (65 + k)] else lets X k := by
  unfold lets
  rw [List.range_succ, List.filter_append, List.map_append]
  by_cases h : bitB X k = true
  · rw [if_pos h]; simp [h]
  · rw [if_neg h]; simp [h]
theorem lets_len (X k : Nat) : (lets X k).length ≤ k := by
  have := List.length_filter_le (bitB X) (List.range k)
  simpa [lets] using this
def noneB : ByteArray := ⟨#[110, 111, 110, 101]⟩
/-- The text of x, empty if x is no set of columns. -/
def fmtA (x : Int) : ByteArray := if 0 ≤ x ∧ x ≤ 31 then (if lets x.toNat 5 = [] then noneB else ⟨(lets x.toNat 5).toArray⟩) else ⟨#[]⟩
theorem abc_at (k : Nat) (hk : k < 5) : (({ data := #[65, 66, 67, 68, 69] } : ByteArray).extract k (k + 1)).data.toList = [UInt8.ofNat (65 + k)] := by
  rcases (show k = 0 ∨ k = 1 ∨ k = 2 ∨ k = 3 ∨ k = 4 by omega) with rfl | rfl | rfl | rfl | rfl <;> rfl

end Go.Proofs.YtlecfkfcjhliiaaGreat
namespace Go.Proofs.YtlecfkfcjhliiaaGreat
open Go.RowKit

/-- Whether the text of x is s, as the program compares. -/
def isTx (s : ByteArray) (x : Nat) : Bool := (fmtA (x : Int)).toList == s.toList
/-- The set that s is the text of, and whether there is one. -/
def PaA (s : ByteArray) (x : Int) (ok : Bool) : Prop :=
  (∃ X : Nat, X < 32 ∧ x = (X : Int) ∧ isTx s X = true ∧ (∀ j, j < X → isTx s j = false) ∧ ok = true) ∨ ((∀ j, j < 32 → isTx s j = false) ∧ x = 0 ∧ ok = false)
theorem PaA.unique {s : ByteArray} {x x' : Int} {ok ok' : Bool} (h : PaA s x ok) (h' : PaA s x' ok') : x = x' ∧ ok = ok' := by
  rcases h with ⟨X, hX, rfl, ht, hn, rfl⟩ | ⟨hn, rfl, rfl⟩ <;> rcases h' with ⟨Y, hY, rfl, ht', hn', rfl⟩ | ⟨hn', rfl, rfl⟩
  · refine ⟨?_, rfl⟩
    rcases Nat.lt_trichotomy X Y with h | rfl | h
    · rw [hn' X h] at ht; cases ht
    · rfl
    · rw [hn Y h] at ht'; cases ht'
  · rw [hn' X hX] at ht; cases ht
  · rw [hn Y hY] at ht'; cases ht'
  · exact ⟨rfl, rfl⟩
theorem none_step {s : ByteArray} {k : Nat} (h : ∀ j, j < k → isTx s j = false) (hk : isTx s k = false) : ∀ j, j < k + 1 → isTx s j = false := fun j hj => by
  rcases Nat.lt_or_ge j k with h1 | h1
  · exact h j h1
  · obtain rfl : j = k := by omega
    exact hk

end Go.Proofs.YtlecfkfcjhliiaaGreat
namespace Go.Proofs.YtlecfkfcjhliiaaGreat
open Go.RowKit

theorem isTx_eq (s : ByteArray) (x : Nat) : isTx s x = ((fmtA (x : Int)).data.toList == s.data.toList) := by
  unfold isTx; rw [ByteArray.toList_eq, ByteArray.toList_eq]
theorem texts_apart : ∀ X : Fin 32, ∀ j : Fin 32, ((fmtA ((j.val : Nat) : Int)).data.toList == (fmtA ((X.val : Nat) : Int)).data.toList) = decide (j = X) := by decide +kernel
theorem texts_some : ∀ j : Fin 32, ((fmtA ((j.val : Nat) : Int)).data.toList == []) = false := by decide +kernel
theorem PaA_fmt {x v : Int} {ok : Bool} (h : PaA (fmtA x) v ok) : ok = valB x ∧ (valB x = true → v = x) := by
  by_cases hx : 0 ≤ x ∧ x ≤ 31
  · obtain ⟨X, rfl⟩ : ∃ X : Nat, x = (X : Int) := ⟨x.toNat, by omega⟩
    have hX : X < 32 := by omega
    have hs : PaA (fmtA (X : Int)) (X : Int) true := .inl ⟨X, hX, rfl, by
        rw [isTx_eq]; simp, fun j hj => by
        rw [isTx_eq]; have := texts_apart ⟨X, hX⟩ ⟨j, by omega⟩; rw [this]; simp; omega, rfl⟩
    obtain ⟨rfl, rfl⟩ := h.unique hs
    refine ⟨?_, fun _ => rfl⟩
    unfold valB; simp [hx]
  · have hf : fmtA x = ⟨#[]⟩ := by unfold fmtA; rw [if_neg hx]
    have hs : PaA (fmtA x) 0 false := .inr ⟨fun j hj => by rw [isTx_eq, hf]; exact texts_some ⟨j, hj⟩, rfl, rfl⟩
    obtain ⟨rfl, rfl⟩ := h.unique hs
    have hv : valB x = false := by unfold valB; simp only [hx, decide_false]
    exact ⟨hv.symm, fun e => by rw [hv] at e; cases e⟩
theorem isA5 (x : Int) : isA 5 x = valB x := by unfold isA valB; simp

/-- The sum of the places 2 to the i. -/
def pows (l : List Int) : Int := l.foldl (fun s i => s + 2 ^ i.toNat) 0
theorem pows_take {l : List Int} {k : Nat} (h : k < l.length) : pows (l.take (k + 1)) = pows (l.take k) + 2 ^ (l[k]).toNat := by
  unfold pows; rw [List.take_succ_eq_append_getElem h, List.foldl_append]; rfl
theorem mems_sum : ∀ X : Fin 32, pows (mems ((X.val : Nat) : Int)) = ((X.val : Nat) : Int) := by decide +kernel
theorem mems_small : ∀ X : Fin 32, ∀ i ∈ mems ((X.val : Nat) : Int), 0 ≤ i ∧ i ≤ 4 := by decide +kernel
theorem pows_part : ∀ X : Fin 32, ∀ k : Fin 6, 0 ≤ pows ((mems ((X.val : Nat) : Int)).take k.val) ∧ pows ((mems ((X.val : Nat) : Int)).take k.val) ≤ 31 := by decide +kernel
theorem mems_at {x : Int} {k : Nat} (h : k < (mems x).length) : (0 ≤ x ∧ x ≤ 31) ∧ 0 ≤ (mems x)[k] ∧ (mems x)[k] ≤ 4 := by
  by_cases hx : 0 ≤ x ∧ x ≤ 31
  · obtain ⟨X, rfl⟩ : ∃ X : Nat, x = (X : Int) := ⟨x.toNat, by omega⟩
    exact ⟨hx, mems_small ⟨X, by omega⟩ _ (List.getElem_mem h)⟩
  · have : mems x = [] := by unfold mems; rw [if_neg hx]
    rw [this] at h; simp at h
theorem pows_bd (x : Int) (k : Nat) : 0 ≤ pows ((mems x).take k) ∧ pows ((mems x).take k) ≤ 31 := by
  by_cases hx : 0 ≤ x ∧ x ≤ 31
  · obtain ⟨X, rfl⟩ : ∃ X : Nat, x = (X : Int) := ⟨x.toNat, by omega⟩
    by_cases hk : k < 6
    · exact pows_part ⟨X, by omega⟩ ⟨k, hk⟩
    · have h1 := mems_len (X : Int)
      have h2 := pows_part ⟨X, by omega⟩ ⟨5, by omega⟩
      rw [List.take_of_length_le (by omega)]
      rw [List.take_of_length_le (by simpa using h1)] at h2
      exact h2
  · have : mems x = [] := by unfold mems; rw [if_neg hx]
    rw [this]; simp [pows]
theorem pows_all {x : Int} (h : valB x = true) : pows (mems x) = x := by
  have hx : 0 ≤ x ∧ x ≤ 31 := by unfold valB at h; simpa using h
  obtain ⟨X, rfl⟩ : ∃ X : Nat, x = (X : Int) := ⟨x.toNat, by omega⟩
  exact mems_sum ⟨X, by omega⟩
/-- Place i of the listing comes after place i - 1. -/
def asc (l : List Int) (i : Nat) : Bool := decide (cnt (l.getD (i - 1) 0) < cnt (l.getD i 0)) || (decide (cnt (l.getD (i - 1) 0) = cnt (l.getD i 0)) && decide (l.getD (i - 1) 0 < l.getD i 0))
theorem asc_all : ∀ N : Fin 6, ((List.range (parts ((N.val : Nat) : Int)).length).all fun i => i == 0 || asc (parts ((N.val : Nat) : Int)) i) = true := by decide +kernel
theorem parts_asc {n : Int} {i : Nat} (h0 : 1 ≤ i) (h1 : i < (parts n).length) : asc (parts n) i = true := by
  by_cases hn : 0 ≤ n ∧ n ≤ 5
  · obtain ⟨N, rfl⟩ : ∃ N : Nat, n = (N : Int) := ⟨n.toNat, by omega⟩
    have := List.all_eq_true.1 (asc_all ⟨N, by omega⟩) i (by simpa using h1)
    have hz : (i == 0) = false := by simp; omega
    simpa [hz] using this
  · have : parts n = [] := by unfold parts; rw [if_neg hn]
    rw [this] at h1; simp at h1
theorem parts_count : ∀ N : Fin 6, (parts ((N.val : Nat) : Int)).length = 2 ^ N.val := by decide +kernel
theorem parts_none {n : Int} (h : ¬ (0 ≤ n ∧ n ≤ 5)) : (parts n).length = 0 := by unfold parts; rw [if_neg h]; rfl
end Go.Proofs.YtlecfkfcjhliiaaGreat
