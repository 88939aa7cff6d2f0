/- Texts of this claim, merged: Sets2, Sets3, Sets4, Sets5, AgrA, AgrB, ParA. Conditions: as stated. -/
import Derived.Test.YtnbjcelfdppkcadGreatXz2
import Derived.Test.YtnbjcelfdppkcadGreatXz3
namespace Go.Proofs.YtnbjcelfdppkcadGreat
open Go.RowKit

def cnt (x : Int) : Nat := (mems x).length
theorem cnt_le (x : Int) : cnt x ≤ 5 := mems_len x
theorem countS_any (x : Int) (w : World) :
    Calls Tryz.prog 90 #[.int .i64 x] w fun e w' => e = .returned (.int .i64 (cnt x : Int)) ∧ Below w.heap.size w w' := by
  go_enter Tryz.func90, Tryz.ntmps90
  go_wp2_with fail
  refine (membersS_any x _).mono ?_
  rintro e w' ⟨v, rfl, ho, hb⟩
  obtain ⟨a, cap, rfl, _⟩ := ho.read
  go_wp2_with fail
  go_ret
  exact ⟨rfl, hb⟩
def partB (x y : Int) : Bool := valB x && valB y && (bits .and .i64 x y == x)
/-- The sets below m with s columns. -/
def ofSize (s m : Nat) : List Int := ((List.range m).filter fun (x : Nat) => cnt (x : Int) == s).map fun (i : Nat) => (i : Int)
theorem ofSize_succ (s m : Nat) : ofSize s (m + 1) = if (cnt (m : Int) == s) = true then ofSize s m ++ [(m : Int)] else ofSize s m := by
  unfold ofSize
  rw [List.range_succ, List.filter_append, List.map_append]
  by_cases h : (cnt (m : Int) == s) = true
  · rw [if_pos h]; simp [h]
  · rw [if_neg h]; simp [h]
theorem ofSize_len (s m : Nat) : (ofSize s m).length ≤ m := by
  have := List.length_filter_le (fun (x : Nat) => cnt (x : Int) == s) (List.range m)
  simpa [ofSize] using this
def bySize (N s : Nat) : List Int := (List.range s).flatMap fun i => ofSize i (2 ^ N)
theorem bySize_succ (N s : Nat) : bySize N (s + 1) = bySize N s ++ ofSize s (2 ^ N) := by simp [bySize, List.range_succ]
theorem bySize_len (N s : Nat) : (bySize N s).length ≤ s * 2 ^ N := by
  induction s with
  | zero => simp [bySize]
  | succ s ih => rw [bySize_succ, List.length_append, Nat.succ_mul]; have := ofSize_len s (2 ^ N); omega
/-- All sets of the first n columns, by size. -/
def parts (n : Int) : List Int := if 0 ≤ n ∧ n ≤ 5 then bySize n.toNat (n.toNat + 1) else []
theorem parts_len (n : Int) : (parts n).length ≤ 1000 := by
  unfold parts
  split
  · rename_i h
    have a1 := bySize_len n.toNat (n.toNat + 1)
    have a2 : (2 : Nat) ^ n.toNat ≤ 2 ^ 5 := Nat.pow_le_pow_right (by omega) (by omega)
    have a3 : (n.toNat + 1) * 2 ^ n.toNat ≤ 6 * 32 := Nat.mul_le_mul (by omega) a2
    omega
  · simp

set_option maxHeartbeats 1600000 in
theorem partsS_any (n : Int) (w : World) :
    Calls Tryz.prog 55 #[.int .i64 n] w (RetI (parts n) w) := by
  obtain ⟨i0, hi, hz0, hz1, hz2⟩ := info_parts info3i
  have HI : Hid (_ ∧ _ ∧ _ ∧ _) := Lib.hid ⟨hi, hz0, hz1, hz2⟩
  clear hi hz0 hz1 hz2
  by_cases hn : 0 ≤ n ∧ n ≤ 5
  · obtain ⟨N, rfl⟩ : ∃ N : Nat, n = (N : Int) := ⟨n.toNat, by omega⟩
    have hN : N ≤ 5 := by omega
    have h1 : decide (0 ≤ (N : Int) ∧ (N : Int) ≤ 5) = true := by simp; omega
    have HE : Hid (parts (N : Int) = bySize N (N + 1)) := Lib.hid (by unfold parts; rw [if_pos hn]; rfl)
    obtain ⟨M, hM, hM31⟩ : ∃ M : Nat, M + 1 = 2 ^ N ∧ M ≤ 31 := by
      have : 2 ^ N ≤ 2 ^ 5 := Nat.pow_le_pow_right (by omega) hN
      have : 0 < 2 ^ N := Nat.pow_pos (by omega)
      exact ⟨2 ^ N - 1, by omega, by omega⟩
    have HM := Lib.hid hM
    have HA : Hid (∀ w, Calls Tryz.prog 26 #[.int .i64 (N : Int)] w fun e w' => e = .returned (.int .i64 (M : Int)) ∧ w = w') :=
      Lib.hid fun w => (all_any (N : Int) w hn.1 hn.2).mono fun _ _ ⟨a, b⟩ => ⟨by
        rw [a, show (N : Int).toNat = N from rfl, show ((2 : Int) ^ N - 1) = (M : Int) by
          have h3 : ((2 ^ N : Nat) : Int) = (2 : Int) ^ N := by rw [Int.natCast_pow]; rfl
          omega], b⟩
    have HIN : Hid (∀ w, Calls Tryz.prog 29 #[.int .i64 (N : Int), .int .i64 0, .int .i64 5] w fun e w' => e = .returned (.bool true) ∧ w = w') := Lib.hid fun w => (in_any (N : Int) 0 5 w).mono fun _ _ ⟨a, b⟩ => ⟨by rw [a, h1], b⟩
    clear hM hn
    go_enter Tryz.func55, Tryz.ntmps55
    go_wp2_with fail
    go_loopw [3, 4] (fun ov sv wr => ∃ (s : Nat) (l : List Int), s ≤ N + 1 ∧ sv = .int .i64 (s : Int) ∧ Hid (l = bySize N s) ∧ OwnI wr w.heap.size ov l ∧ Below w.heap.size w wr) (fun _ sv _ => (N + 1 - intOf sv).toNat)
    case atStart => exact ⟨0, [], by omega, rfl, Lib.hid rfl, OwnI.made (World.ownsRow_made w #[] 0 (Nat.le_refl _) (by unfold maxLen; omega) rfl), (Below.refl _ _).alloc (Nat.le_refl _) _⟩
    case round =>
      obtain ⟨s, l, hs, rfl, hl, ho, hb⟩ := hrel
      by_cases hlt : s ≤ N
      · go_wp2_with fail
        refine (HIN.out _).mono ?_
        rintro e w' ⟨rfl, rfl⟩
        go_wp2_with fail
        obtain ⟨wo, rfl⟩ : ∃ wo : World, wo = wr := ⟨_, rfl⟩
        go_loopw [3, 5] (fun ov xv wr => ∃ (x : Nat) (l2 : List Int), x ≤ M + 1 ∧ xv = .int .i64 (x : Int) ∧ Hid (l2 = l ++ ofSize s x) ∧ OwnI wr w.heap.size ov l2 ∧ Below w.heap.size w wr) (fun _ xv _ => (M + 1 - intOf xv).toNat)
        case atStart => exact ⟨0, l, by omega, rfl, Lib.hid (by simp [ofSize]), ho, hb⟩
        case round =>
          clear ho hb
          obtain ⟨x, l2, hx, rfl, hl2, ho, hb⟩ := hrel
          have hll : l2.length ≤ 1000 := by
            rw [hl2.out, List.length_append, hl.out]
            have a1 := bySize_len N s
            have a2 := ofSize_len s x
            have a3 : s * 2 ^ N ≤ 5 * 32 := Nat.mul_le_mul (by omega) (by have := HM.out; omega)
            omega
          by_cases hxm : x ≤ M
          · by_cases hc : cnt (x : Int) = s
            · have heq : ((cnt (x : Int) : Int) == (s : Int)) = true := by simp [hc]
              have HCN := Lib.hid hc
              clear hc
              go_wp2_with fail
              refine (HA.out _).mono ?_
              rintro e w' ⟨rfl, rfl⟩
              go_wp2_with fail
              refine (countS_any _ _).mono ?_
              rintro e w1 ⟨rfl, hb1'⟩
              have ho1 := ho.kept hb1' (fun k hk => (OwnI.lt ho k hk).2)
              have hb1 := hb.trans (hb1'.mono hb.size)
              clear ho hb hb1'
              go_wp2_with (at_builtin; refine wpList_append_own _ rfl _ _ 40 rfl w.heap.size 3 i0 (.int .i64 0) 1 8 Tryz.underlying40 HI.out.1 HI.out.2.1 HI.out.2.2.1 HI.out.2.2.2 rfl (by decide) _ _ _ rfl (World.ownsRow.alloc ho1 _) ⟨w1.heap.size, 0, none⟩ 1 1 [.int .i64 (x : Int)] rfl rfl (cell_one_new _ _ _) (one_i64 _) (by unfold maxLen; omega) (by omega) (le_alloc hb1 (Nat.le_refl _) _) ?_; intro v' w2 hown' hgrow _)
              have ho' := OwnI.snoc hown'
              have hb' := (hb1.alloc hb1.size (.cells #[.int .i64 (x : Int)] 3)).grown hgrow (by simp; have := hb1.size; omega) (fun k hk => (OwnI.lt ho1 k hk).1)
              clear hown' hgrow
              go_wp2_with fail
              go_roundw
              case rel => exact ⟨x + 1, _, by omega, by go_num, Lib.hid (by rw [ofSize_succ, if_pos (by simp [HCN.out]), hl2.out, List.append_assoc]), ho', hb'⟩
              case measure => simp [intOf]; omega
            · have heq : ((cnt (x : Int) : Int) == (s : Int)) = false := by simp; omega
              have HCN := Lib.hid hc
              clear hc
              go_wp2_with fail
              refine (HA.out _).mono ?_
              rintro e w' ⟨rfl, rfl⟩
              go_wp2_with fail
              refine (countS_any _ _).mono ?_
              rintro e w1 ⟨rfl, hb1'⟩
              have ho1 := ho.kept hb1' (fun k hk => (OwnI.lt ho k hk).2)
              have hb1 := hb.trans (hb1'.mono hb.size)
              clear ho hb hb1'
              go_wp2_with fail
              go_roundw
              case rel => exact ⟨x + 1, _, by omega, by go_num, Lib.hid (by rw [ofSize_succ, if_neg (by simp [HCN.out]), hl2.out]), ho1, hb1⟩
              case measure => simp [intOf]; omega
          · obtain rfl : x = M + 1 := by omega
            go_wp2_with fail
            refine (HA.out _).mono ?_
            rintro e w' ⟨rfl, rfl⟩
            go_wp2_with fail
            go_roundw
            case rel => exact ⟨s + 1, _, by omega, by go_num, Lib.hid (by rw [bySize_succ, hl2.out, hl.out, HM.out]), ho, hb⟩
            case measure => simp [intOf]; omega
      · obtain rfl : s = N + 1 := by omega
        go_wp2_with fail
        go_ret
        exact ⟨_, rfl, by rw [HE.out, ← hl.out]; exact ho, hb⟩
  · have h1 : decide (0 ≤ n ∧ n ≤ 5) = false := by simp only [hn, decide_false]
    have HE : Hid (parts n = []) := Lib.hid (by unfold parts; rw [if_neg hn])
    have HIN : Hid (∀ w, Calls Tryz.prog 29 #[.int .i64 n, .int .i64 0, .int .i64 5] w fun e w' => e = .returned (.bool false) ∧ w = w') := Lib.hid fun w => (in_any n 0 5 w).mono fun _ _ ⟨a, b⟩ => ⟨by rw [a, h1], b⟩
    clear hn
    by_cases h0 : 0 ≤ n
    · go_enter Tryz.func55, Tryz.ntmps55
      go_wp2_with fail
      refine wp_loop_rounds 1 ?_
      rw [rounds_succ]
      go_wp2_with fail
      refine (HIN.out _).mono ?_
      rintro e w' ⟨rfl, rfl⟩
      go_wp2_with fail
      go_ret
      exact ⟨_, rfl, by rw [HE.out]; exact OwnI.made (World.ownsRow_made w #[] 0 (Nat.le_refl _) (by unfold maxLen; omega) rfl), (Below.refl _ _).alloc (Nat.le_refl _) _⟩
    · go_enter Tryz.func55, Tryz.ntmps55
      go_wp2_with fail
      refine wp_loop_rounds 1 ?_
      rw [rounds_succ]
      go_wp2_with fail
      go_ret
      exact ⟨_, rfl, by rw [HE.out]; exact OwnI.made (World.ownsRow_made w #[] 0 (Nat.le_refl _) (by unfold maxLen; omega) rfl), (Below.refl _ _).alloc (Nat.le_refl _) _⟩
end Go.Proofs.YtnbjcelfdppkcadGreat
namespace Go.Proofs.YtnbjcelfdppkcadGreat
open Go.RowKit

/-- The letters of the first k columns that X has. -/
def lets (X k : Nat) : List UInt8 := ((List.range k).filter (bitB X)).map fun (i : Nat) => UInt8.ofNat (65 + i)
theorem lets_succ (X k : Nat) : lets X (k + 1) = if bitB X k = true then lets X k ++ [UInt8.ofNat (65 + k)] else lets X k := by
  unfold lets
  rw [List.range_succ, List.filter_append, List.map_append]
  by_cases h : bitB X k = true
  · rw [if_pos h]; simp [h]
  · rw [if_neg h]; simp [h]
theorem lets_len (X k : Nat) : (lets X k).length ≤ k := by
  have := List.length_filter_le (bitB X) (List.range k)
  simpa [lets] using this
def noneB : ByteArray := ⟨#[110, 111, 110, 101]⟩
/-- The text of x, empty if x is no set of columns. -/
def fmtA (x : Int) : ByteArray := if 0 ≤ x ∧ x ≤ 31 then (if lets x.toNat 5 = [] then noneB else ⟨(lets x.toNat 5).toArray⟩) else ⟨#[]⟩
theorem abc_at (k : Nat) (hk : k < 5) : (({ data := #[65, 66, 67, 68, 69] } : ByteArray).extract k (k + 1)).data.toList = [UInt8.ofNat (65 + k)] := by
  rcases (show k = 0 ∨ k = 1 ∨ k = 2 ∨ k = 3 ∨ k = 4 by omega) with rfl | rfl | rfl | rfl | rfl <;> rfl

end Go.Proofs.YtnbjcelfdppkcadGreat
namespace Go.Proofs.YtnbjcelfdppkcadGreat
open Go.RowKit

/-- Whether the text of x is s, as the program compares. -/
def isTx (s : ByteArray) (x : Nat) : Bool := (fmtA (x : Int)).toList == s.toList
/-- The set that s is the text of, and whether there is one. -/
def PaA (s : ByteArray) (x : Int) (ok : Bool) : Prop :=
  (∃ X : Nat, X < 32 ∧ x = (X : Int) ∧ isTx s X = true ∧ (∀ j, j < X → isTx s j = false) ∧ ok = true) ∨ ((∀ j, j < 32 → isTx s j = false) ∧ x = 0 ∧ ok = false)
theorem PaA.unique {s : ByteArray} {x x' : Int} {ok ok' : Bool} (h : PaA s x ok) (h' : PaA s x' ok') : x = x' ∧ ok = ok' := by
  rcases h with ⟨X, hX, rfl, ht, hn, rfl⟩ | ⟨hn, rfl, rfl⟩ <;> rcases h' with ⟨Y, hY, rfl, ht', hn', rfl⟩ | ⟨hn', rfl, rfl⟩
  · refine ⟨?_, rfl⟩
    rcases Nat.lt_trichotomy X Y with h | rfl | h
    · rw [hn' X h] at ht; cases ht
    · rfl
    · rw [hn Y h] at ht'; cases ht'
  · rw [hn' X hX] at ht; cases ht
  · rw [hn Y hY] at ht'; cases ht'
  · exact ⟨rfl, rfl⟩
theorem none_step {s : ByteArray} {k : Nat} (h : ∀ j, j < k → isTx s j = false) (hk : isTx s k = false) : ∀ j, j < k + 1 → isTx s j = false := fun j hj => by
  rcases Nat.lt_or_ge j k with h1 | h1
  · exact h j h1
  · obtain rfl : j = k := by omega
    exact hk

end Go.Proofs.YtnbjcelfdppkcadGreat
namespace Go.Proofs.YtnbjcelfdppkcadGreat
open Go.RowKit

theorem isTx_eq (s : ByteArray) (x : Nat) : isTx s x = ((fmtA (x : Int)).data.toList == s.data.toList) := by
  unfold isTx; rw [ByteArray.toList_eq, ByteArray.toList_eq]
theorem texts_apart : ∀ X : Fin 32, ∀ j : Fin 32, ((fmtA ((j.val : Nat) : Int)).data.toList == (fmtA ((X.val : Nat) : Int)).data.toList) = decide (j = X) := by decide +kernel
theorem texts_some : ∀ j : Fin 32, ((fmtA ((j.val : Nat) : Int)).data.toList == []) = false := by decide +kernel
theorem PaA_fmt {x v : Int} {ok : Bool} (h : PaA (fmtA x) v ok) : ok = valB x ∧ (valB x = true → v = x) := by
  by_cases hx : 0 ≤ x ∧ x ≤ 31
  · obtain ⟨X, rfl⟩ : ∃ X : Nat, x = (X : Int) := ⟨x.toNat, by omega⟩
    have hX : X < 32 := by omega
    have hs : PaA (fmtA (X : Int)) (X : Int) true := .inl ⟨X, hX, rfl, by
        rw [isTx_eq]; simp, fun j hj => by
        rw [isTx_eq]; have := texts_apart ⟨X, hX⟩ ⟨j, by omega⟩; rw [this]; simp; omega, rfl⟩
    obtain ⟨rfl, rfl⟩ := h.unique hs
    refine ⟨?_, fun _ => rfl⟩
    unfold valB; simp [hx]
  · have hf : fmtA x = ⟨#[]⟩ := by unfold fmtA; rw [if_neg hx]
    have hs : PaA (fmtA x) 0 false := .inr ⟨fun j hj => by rw [isTx_eq, hf]; exact texts_some ⟨j, hj⟩, rfl, rfl⟩
    obtain ⟨rfl, rfl⟩ := h.unique hs
    have hv : valB x = false := by unfold valB; simp only [hx, decide_false]
    exact ⟨hv.symm, fun e => by rw [hv] at e; cases e⟩
theorem isA5 (x : Int) : isA 5 x = valB x := by unfold isA valB; simp

/-- The sum of the places 2 to the i. -/
def pows (l : List Int) : Int := l.foldl (fun s i => s + 2 ^ i.toNat) 0
theorem pows_take {l : List Int} {k : Nat} (h : k < l.length) : pows (l.take (k + 1)) = pows (l.take k) + 2 ^ (l[k]).toNat := by
  unfold pows; rw [List.take_succ_eq_append_getElem h, List.foldl_append]; rfl
theorem mems_sum : ∀ X : Fin 32, pows (mems ((X.val : Nat) : Int)) = ((X.val : Nat) : Int) := by decide +kernel
theorem mems_small : ∀ X : Fin 32, ∀ i ∈ mems ((X.val : Nat) : Int), 0 ≤ i ∧ i ≤ 4 := by decide +kernel
theorem pows_part : ∀ X : Fin 32, ∀ k : Fin 6, 0 ≤ pows ((mems ((X.val : Nat) : Int)).take k.val) ∧ pows ((mems ((X.val : Nat) : Int)).take k.val) ≤ 31 := by decide +kernel
theorem mems_at {x : Int} {k : Nat} (h : k < (mems x).length) : (0 ≤ x ∧ x ≤ 31) ∧ 0 ≤ (mems x)[k] ∧ (mems x)[k] ≤ 4 := by
  by_cases hx : 0 ≤ x ∧ x ≤ 31
  · obtain ⟨X, rfl⟩ : ∃ X : Nat, x = (X : Int) := ⟨x.toNat, by omega⟩
    exact ⟨hx, mems_small ⟨X, by omega⟩ _ (List.getElem_mem h)⟩
  · have : mems x = [] := by unfold mems; rw [if_neg hx]
    rw [this] at h; simp at h
theorem pows_bd (x : Int) (k : Nat) : 0 ≤ pows ((mems x).take k) ∧ pows ((mems x).take k) ≤ 31 := by
  by_cases hx : 0 ≤ x ∧ x ≤ 31
  · obtain ⟨X, rfl⟩ : ∃ X : Nat, x = (X : Int) := ⟨x.toNat, by omega⟩
    by_cases hk : k < 6
    · exact pows_part ⟨X, by omega⟩ ⟨k, hk⟩
    · have h1 := mems_len (X : Int)
      have h2 := pows_part ⟨X, by omega⟩ ⟨5, by omega⟩
      rw [List.take_of_length_le (by omega)]
      rw [List.take_of_length_le (by simpa using h1)] at h2
      exact h2
  · have : mems x = [] := by unfold mems; rw [if_neg hx]
    rw [this]; simp [pows]
theorem pows_all {x : Int} (h : valB x = true) : pows (mems x) = x := by
  have hx : 0 ≤ x ∧ x ≤ 31 := by unfold valB at h; simpa using h
  obtain ⟨X, rfl⟩ : ∃ X : Nat, x = (X : Int) := ⟨x.toNat, by omega⟩
  exact mems_sum ⟨X, by omega⟩
/-- Place i of the listing comes after place i - 1. -/
def asc (l : List Int) (i : Nat) : Bool := decide (cnt (l.getD (i - 1) 0) < cnt (l.getD i 0)) || (decide (cnt (l.getD (i - 1) 0) = cnt (l.getD i 0)) && decide (l.getD (i - 1) 0 < l.getD i 0))
theorem asc_all : ∀ N : Fin 6, ((List.range (parts ((N.val : Nat) : Int)).length).all fun i => i == 0 || asc (parts ((N.val : Nat) : Int)) i) = true := by decide +kernel
theorem parts_asc {n : Int} {i : Nat} (h0 : 1 ≤ i) (h1 : i < (parts n).length) : asc (parts n) i = true := by
  by_cases hn : 0 ≤ n ∧ n ≤ 5
  · obtain ⟨N, rfl⟩ : ∃ N : Nat, n = (N : Int) := ⟨n.toNat, by omega⟩
    have := List.all_eq_true.1 (asc_all ⟨N, by omega⟩) i (by simpa using h1)
    have hz : (i == 0) = false := by simp; omega
    simpa [hz] using this
  · have : parts n = [] := by unfold parts; rw [if_neg hn]
    rw [this] at h1; simp at h1
theorem parts_count : ∀ N : Fin 6, (parts ((N.val : Nat) : Int)).length = 2 ^ N.val := by decide +kernel
theorem parts_none {n : Int} (h : ¬ (0 ≤ n ∧ n ≤ 5)) : (parts n).length = 0 := by unfold parts; rw [if_neg h]; rfl
end Go.Proofs.YtnbjcelfdppkcadGreat
namespace Go.Proofs.YtnbjcelfdppkcadGreat
open Go.RowKit

def modeOk (m : Int) : Bool := decide (m = 0 ∨ m = 1)
/-- Two values are equal in this mode. -/
def eqC (m a b : Int) : Bool := decide ((m = 0 ∨ m = 1) ∧ a = b ∧ (m = 0 ∨ a ≠ -1))
theorem l4Mode_any (m : Int) (w : World) :
    Calls Tryz.prog 67 #[.int .i64 m] w fun e w' => e = .returned (.bool (modeOk m)) ∧ w = w' := by
  unfold modeOk
  by_cases h0 : m = 0
  · subst h0
    go_enter Tryz.func67, Tryz.ntmps67
    go_wp2_with fail
    go_ret
    exact ⟨rfl, rfl⟩
  · by_cases h1 : m = 1
    · subst h1
      go_enter Tryz.func67, Tryz.ntmps67
      go_wp2_with fail
      go_ret
      exact ⟨rfl, rfl⟩
    · have e0 : (m == 0) = false := by simpa using h0
      have e1 : (m == 1) = false := by simpa using h1
      go_enter Tryz.func67, Tryz.ntmps67
      go_wp2_with fail
      go_ret
      exact ⟨ret_b (by rw [decide_eq_false (by omega)]), rfl⟩
theorem eqCells_any (m a b : Int) (w : World) :
    Calls Tryz.prog 96 #[.int .i64 m, .int .i64 a, .int .i64 b] w fun e w' => e = .returned (.bool (eqC m a b)) ∧ w = w' := by
  have HM := Lib.hid (l4Mode_any m w)
  cases hm : modeOk m with
  | false =>
    rw [hm] at HM
    have h : ¬ (m = 0 ∨ m = 1) := by simpa [modeOk] using hm
    have he : eqC m a b = false := by unfold eqC; rw [decide_eq_false]; omega
    have HE := Lib.hid he
    clear he hm h
    go_enter Tryz.func96, Tryz.ntmps96
    go_wp2_with fail
    refine HM.out.mono ?_
    rintro e w' ⟨rfl, rfl⟩
    go_wp2_with fail
    go_ret
    exact ⟨ret_b HE.out, rfl⟩
  | true =>
    rw [hm] at HM
    have h : m = 0 ∨ m = 1 := by simpa [modeOk] using hm
    clear hm
    by_cases hab : a = b
    · subst hab
      by_cases h0 : m = 0
      · subst h0
        have HE := Lib.hid (show eqC 0 a a = true by unfold eqC; simp)
        go_enter Tryz.func96, Tryz.ntmps96
        go_wp2_with fail
        refine HM.out.mono ?_
        rintro e w' ⟨rfl, rfl⟩
        go_wp2_with fail
        go_ret
        exact ⟨ret_b HE.out, rfl⟩
      · obtain rfl : m = 1 := by omega
        clear h h0
        by_cases ha : a = -1
        · subst ha
          have HE := Lib.hid (show eqC 1 (-1) (-1) = false by decide)
          go_enter Tryz.func96, Tryz.ntmps96
          go_wp2_with fail
          refine HM.out.mono ?_
          rintro e w' ⟨rfl, rfl⟩
          go_wp2_with fail
          go_ret
          exact ⟨ret_b HE.out, rfl⟩
        · have e1 : (a != -1) = true := by simpa using ha
          have HE := Lib.hid (show eqC 1 a a = true by unfold eqC; simp [ha])
          go_enter Tryz.func96, Tryz.ntmps96
          go_wp2_with fail
          refine HM.out.mono ?_
          rintro e w' ⟨rfl, rfl⟩
          go_wp2_with fail
          go_ret
          exact ⟨ret_b HE.out, rfl⟩
    · have e0 : (a == b) = false := by simpa using hab
      have HE := Lib.hid (show eqC m a b = false by unfold eqC; rw [decide_eq_false]; omega)
      clear h hab
      go_enter Tryz.func96, Tryz.ntmps96
      go_wp2_with fail
      refine HM.out.mono ?_
      rintro e w' ⟨rfl, rfl⟩
      go_wp2_with fail
      go_ret
      exact ⟨ret_b HE.out, rfl⟩
/-- The set of the columns below n in which two rows agree. -/
def agrTo (m : Int) (r s : List Int) : Nat → Int
  | 0 => 0
  | n + 1 => agrTo m r s n + (if eqC m (r.getD n 0) (s.getD n 0) = true then 2 ^ n else 0)
theorem agrTo_bd (m : Int) (r s : List Int) (n : Nat) : 0 ≤ agrTo m r s n ∧ agrTo m r s n < 2 ^ n := by
  induction n with
  | zero => simp [agrTo]
  | succ n ih =>
    have h2 : (2 : Int) ^ (n + 1) = 2 * 2 ^ n := by rw [Int.pow_succ]; omega
    unfold agrTo
    split <;> omega
/-- A valid table and a mode that there is. -/
def fineT (c : Int) (ll : List (List Int)) (m : Int) : Bool := isT c ll && modeOk m
set_option maxHeartbeats 800000 in
theorem l4Fine_any (c m : Int) (v : Value) (ll : List (List Int)) (w : World) (hr : ReadSS w v ll) (hl : ll.length ≤ 1048576) (ht : ∀ i, i < ll.length → (ll.getD i []).length ≤ 1048576) :
    Calls Tryz.prog 30 #[.agg #[.int .i64 c, v], .int .i64 m] w fun e w' => e = .returned (.bool (fineT c ll m)) ∧ Below w.heap.size w w' := by
  have hb1 := (Below.refl w.heap.size w).alloc (Nat.le_refl _) (.cells #[.int .i64 c, v] 29)
  have HV := Lib.hid (isTable_any c v ll (w.alloc (.cells #[.int .i64 c, v] 29)) (hr.kept hb1) hl ht)
  have HM := Lib.hid (l4Mode_any m)
  obtain ⟨a, cap, rfl, -⟩ := hr
  unfold fineT
  cases hv : isT c ll with
  | true =>
    rw [hv] at HV
    clear hv
    go_enter Tryz.func30, Tryz.ntmps30
    go_wp2_with fail
    refine HV.out.mono ?_
    rintro e w' ⟨rfl, b⟩
    have hb2 := hb1.trans (b.mono hb1.size)
    clear b hb1
    go_wp2_with fail
    refine (HM.out _).mono ?_
    rintro e w'' ⟨rfl, rfl⟩
    go_wp2_with fail
    go_ret
    exact ⟨ret_b (by rw [Bool.true_and]), hb2⟩
  | false =>
    rw [hv] at HV
    clear hv
    go_enter Tryz.func30, Tryz.ntmps30
    go_wp2_with fail
    refine HV.out.mono ?_
    rintro e w' ⟨rfl, b⟩
    have hb2 := hb1.trans (b.mono hb1.size)
    clear b hb1
    go_wp2_with fail
    go_ret
    exact ⟨ret_b (by rw [Bool.false_and]), hb2⟩
theorem or_pow (X : Int) (j : Nat) (hj : j ≤ 5) (h0 : 0 ≤ X) (h1 : X < 2 ^ j) : bits .or .i64 X (wrap64 (2 ^ j)) = X + 2 ^ j := by
  have hb : X < ((2 ^ j : Nat) : Int) := by simpa using h1
  rw [IntWalk.wrap64_in _ (by rcases (show j = 0 ∨ j = 1 ∨ j = 2 ∨ j = 3 ∨ j = 4 ∨ j = 5 by omega) with rfl | rfl | rfl | rfl | rfl | rfl <;> decide)]
  rcases (show j = 0 ∨ j = 1 ∨ j = 2 ∨ j = 3 ∨ j = 4 ∨ j = 5 by omega) with rfl | rfl | rfl | rfl | rfl | rfl
  all_goals exact i64_or_low _ h0 (by simp at h1; omega) hb (by decide) (by decide) (by decide)
set_option maxHeartbeats 1600000 in
theorem l4Agree_any (c m : Int) (i k : Nat) (v : Value) (ll : List (List Int)) (w : World) (hr : ReadSS w v ll) (hT : isT c ll = true) (hi : i < ll.length) (hk : k < ll.length) :
    Calls Tryz.prog 68 #[.agg #[.int .i64 c, v], .int .i64 m, .int .i64 (i : Int), .int .i64 (k : Int)] w fun e w' => e = .returned (.int .i64 (agrTo m (ll.getD i []) (ll.getD k []) c.toNat)) ∧ Below w.heap.size w w' := by
  obtain ⟨hc1, hc5, hl40⟩ := isT_bd hT
  have hri := (isT_row hT hi).1
  have hrk := (isT_row hT hk).1
  have hb1 := (Below.refl w.heap.size w).alloc (Nat.le_refl _) (.cells #[.int .i64 c, v] 29)
  obtain ⟨a, cap, rfl, ha⟩ := hr
  obtain ⟨x, ui, rfl, hxi, hui⟩ := ha i hi
  obtain ⟨x', uk, hx', hxk, huk⟩ := ha k hk
  obtain rfl := Option.some.inj hx'
  obtain ⟨C, rfl⟩ : ∃ C : Nat, c = (C : Int) := ⟨c.toNat, by omega⟩
  obtain ⟨r, hrr⟩ : ∃ r, r = ll.getD i [] := ⟨_, rfl⟩
  obtain ⟨s, hss⟩ : ∃ s, s = ll.getD k [] := ⟨_, rfl⟩
  rw [← hrr] at hui hri ⊢
  rw [← hss] at huk hrk ⊢
  have HUI := Lib.hid hui
  have HUK := Lib.hid huk
  have HRI := Lib.hid hri
  have HRK := Lib.hid hrk
  have HXI := Lib.hid hxi
  have HXK := Lib.hid hxk
  have HE := Lib.hid (eqCells_any m)
  have i0 : (0 : Int) ≤ (i : Int) := by omega
  have i1 : (i : Int) < (ll.length : Int) := by omega
  have k0 : (0 : Int) ≤ (k : Int) := by omega
  have k1 : (k : Int) < (ll.length : Int) := by omega
  rw [show ((C : Int)).toNat = C by omega]
  clear hrr hss hui huk hri hrk hxi hxk ha hx' hT
  go_enter Tryz.func68, Tryz.ntmps68
  go_wp2_with fail
  go_loopw [9, 10] (fun xv iv wr => ∃ j : Nat, j ≤ C ∧ iv = .int .i64 (j : Int) ∧ xv = .int .i64 (agrTo m r s j) ∧ Below (w.alloc (.cells #[.int .i64 (C : Int), .slice (some x) ll.length cap] 29)).heap.size (w.alloc (.cells #[.int .i64 (C : Int), .slice (some x) ll.length cap] 29)) wr) (fun _ iv _ => C - (intOf iv).toNat)
  case atStart => exact ⟨0, by omega, rfl, rfl, Below.refl _ _⟩
  case round =>
    obtain ⟨j, hj, rfl, rfl, hb⟩ := hrel
    obtain ⟨hc0, hcv⟩ := box2 hb
    have hb2 := hb1.trans (hb.mono hb1.size)
    have HB := Lib.hid hb
    clear hb
    by_cases hlt : j < C
    · have hy1 := (hb2.cell (World.block_lt_of_cell? w _ HXI.out)).trans HXI.out
      have hy2 := (hb2.cell (World.block_lt_of_cell? w _ HXK.out)).trans HXK.out
      obtain ⟨ai, capi, rfl, hai⟩ := HUI.out
      obtain ⟨ak, capk, rfl, hak⟩ := HUK.out
      have jr : j < r.length := by have := HRI.out; omega
      have js : j < s.length := by have := HRK.out; omega
      obtain ⟨xi, rfl, hci⟩ := hai j jr
      obtain ⟨xk, rfl, hck⟩ := hak j js
      have hz1 := (hb2.cell (World.block_lt_of_cell? w _ hci)).trans hci
      have hz2 := (hb2.cell (World.block_lt_of_cell? w _ hck)).trans hck
      have j0 : (0 : Int) ≤ (j : Int) := by omega
      have j1 : (j : Int) < (r.length : Int) := by omega
      have j2 : (j : Int) < (s.length : Int) := by omega
      have hgr : r[j] = r.getD j 0 := get_getD r j jr
      have hgs : s[j] = s.getD j 0 := get_getD s j js
      rw [hgr] at hz1
      rw [hgs] at hz2
      have HQ := Lib.hid (fun n => (HE.out (r.getD j 0) (s.getD j 0) (wr.drewN n)).mono fun e w' (h : e = _ ∧ _ = w') => And.intro h.1 h.2.symm)
      have HS : Hid (agrTo m r s (j + 1) = agrTo m r s j + (if eqC m (r.getD j 0) (s.getD j 0) = true then 2 ^ j else 0)) := Lib.hid rfl
      obtain ⟨p, hp⟩ : ∃ p, p = r.getD j 0 := ⟨_, rfl⟩
      obtain ⟨q, hq⟩ : ∃ q, q = s.getD j 0 := ⟨_, rfl⟩
      rw [← hp] at hz1 HQ HS
      rw [← hq] at hz2 HQ HS
      obtain ⟨X0, X1⟩ := agrTo_bd m r s j
      obtain ⟨X, hX⟩ : ∃ X, X = agrTo m r s j := ⟨_, rfl⟩
      rw [← hX] at X0 X1 HS ⊢
      clear hp hq hX hai hak hci hck hgr hgs
      cases he : eqC m p q with
      | true =>
        rw [he] at HQ HS
        clear he
        go_wp2_with fail
        go_quiet ((go_at_call 96; exact Calls.quiet_of_same (HQ.out _)))
        go_wp2_with fail
        go_roundw
        case rel => exact ⟨j + 1, by omega, by go_num, by rw [HS.out, or_pow X j (by omega) X0 X1]; simp, below_drewN HB.out _⟩
        case measure => simp [intOf]; omega
      | false =>
        rw [he] at HQ HS
        clear he
        go_wp2_with fail
        go_quiet ((go_at_call 96; exact Calls.quiet_of_same (HQ.out _)))
        go_wp2_with fail
        go_roundw
        case rel => exact ⟨j + 1, by omega, by go_num, by rw [HS.out]; simp, below_drewN HB.out _⟩
        case measure => simp [intOf]; omega
    · obtain rfl : j = C := by omega
      go_wp2_with fail
      go_ret
      exact ⟨rfl, hb2⟩
end Go.Proofs.YtnbjcelfdppkcadGreat
namespace Go.Proofs.YtnbjcelfdppkcadGreat
open Go.RowKit

set_option maxHeartbeats 800000 in
theorem l2Has_any (v : Value) (l : List Int) (x : Int) (w : World) (hr : ReadI w v l) (hl : l.length ≤ 1000000000) :
    Calls Tryz.prog 101 #[v, .int .i64 x] w fun e w' => e = .returned (.bool (decide (x ∈ l))) ∧ w = w' := by
  obtain ⟨a, cap, rfl, ha⟩ := hr
  have HA := Lib.hid ha
  clear ha
  go_enter Tryz.func101, Tryz.ntmps101
  go_wp2_with fail
  go_loop [5] (fun iv => ∃ k : Nat, k ≤ l.length ∧ iv = .int .i64 (k : Int) ∧ Hid (x ∉ l.take k)) (fun iv => l.length - (intOf iv).toNat)
  case atStart => exact ⟨0, by omega, rfl, Lib.hid (by simp)⟩
  case round =>
    obtain ⟨k, hk, rfl, hno⟩ := hrel
    by_cases hlt : k < l.length
    · obtain ⟨b, rfl, hb⟩ := HA.out k hlt
      have z0 : (0 : Int) ≤ (k : Int) := by omega
      have z1 : (k : Int) < (l.length : Int) := by omega
      have HM := Lib.hid (List.getElem_mem hlt)
      have HT := Lib.hid (List.take_succ_eq_append_getElem hlt)
      obtain ⟨y, hy⟩ : ∃ y, y = l[k] := ⟨_, rfl⟩
      rw [← hy] at hb HM HT
      clear hy
      by_cases he : y = x
      · subst he
        go_wp2_with fail
        go_ret
        exact ⟨ret_b (by rw [decide_eq_true HM.out]), rfl⟩
      · have e0 : (y == x) = false := by simpa using he
        have HN : Hid (x ∉ l.take (k + 1)) := Lib.hid (by rw [HT.out, List.mem_append]; intro h; rcases h with h | h; exact hno.out h; simp at h; exact he h.symm)
        clear he
        go_wp2_with fail
        go_round
        case rel => exact ⟨k + 1, by omega, by go_num, HN⟩
        case measure => simp [intOf]; omega
    · obtain rfl : k = l.length := by omega
      have HX : Hid (x ∉ l) := Lib.hid (by have := hno.out; rwa [List.take_length] at this)
      go_wp2_with fail
      go_ret
      exact ⟨ret_b (by rw [decide_eq_false HX.out]), rfl⟩
/-- What the list is after k rounds, and whether x has been put. -/
def putTo (l : List Int) (x : Int) : Nat → Bool × List Int
  | 0 => (false, [])
  | k + 1 => if (putTo l x k).1 = false ∧ x < l.getD k 0 then (true, (putTo l x k).2 ++ [x] ++ [l.getD k 0]) else ((putTo l x k).1, (putTo l x k).2 ++ [l.getD k 0])
def put4 (l : List Int) (x : Int) : List Int := if x ∈ l then l else if (putTo l x l.length).1 = true then (putTo l x l.length).2 else (putTo l x l.length).2 ++ [x]
theorem putTo_len (l : List Int) (x : Int) (k : Nat) : (putTo l x k).2.length ≤ k + (if (putTo l x k).1 = true then 1 else 0) := by
  induction k with
  | zero => simp [putTo]
  | succ k ih =>
    unfold putTo
    split
    · rename_i h
      rw [h.1] at ih
      simp at ih ⊢; omega
    · simp only [List.length_append, List.length_cons, List.length_nil]; omega
theorem put4_len (l : List Int) (x : Int) : (put4 l x).length ≤ l.length + 1 := by
  have h := putTo_len l x l.length
  unfold put4
  split
  · omega
  · split
    · rename_i h1; rw [if_pos h1] at h; exact h
    · rename_i h1; rw [if_neg h1] at h; simp; omega
set_option maxHeartbeats 3200000 in
theorem l4Put_any (v : Value) (l : List Int) (x : Int) (B : Nat) (w : World) (ho : OwnI w B v l) (hB : B ≤ w.heap.size) (hl : l.length ≤ 1000000) :
    Calls Tryz.prog 78 #[v, .int .i64 x] w fun e w' => ∃ v', e = .returned v' ∧ OwnI w' B v' (put4 l x) ∧ Below w.heap.size w w' := by
  obtain ⟨i0, hi, hz0, hz1, hz2⟩ := info_parts info3i
  have HI : Hid (_ ∧ _ ∧ _ ∧ _) := Lib.hid ⟨hi, hz0, hz1, hz2⟩
  clear hi hz0 hz1 hz2
  have HH := Lib.hid (l2Has_any v l x w ho.read (by omega))
  have HO := Lib.hid ho
  obtain ⟨a, cap, rfl, ha⟩ := ho.read
  have HA := Lib.hid ha
  clear ha ho
  by_cases hx : x ∈ l
  · have HP : Hid (put4 l x = l) := Lib.hid (by unfold put4; rw [if_pos hx])
    rw [decide_eq_true hx] at HH
    clear hx
    go_enter Tryz.func78, Tryz.ntmps78
    go_wp2_with fail
    refine HH.out.mono ?_
    rintro e w' ⟨rfl, rfl⟩
    go_wp2_with fail
    go_ret
    exact ⟨_, rfl, by rw [HP.out]; exact HO.out, Below.refl _ _⟩
  · have HP : Hid (put4 l x = if (putTo l x l.length).1 = true then (putTo l x l.length).2 else (putTo l x l.length).2 ++ [x]) := Lib.hid (by unfold put4; rw [if_neg hx])
    rw [decide_eq_false hx] at HH
    clear hx
    go_enter Tryz.func78, Tryz.ntmps78
    go_wp2_with fail
    refine HH.out.mono ?_
    rintro e w' ⟨rfl, rfl⟩
    go_wp2_with fail
    go_loopw [5, 6, 7] (fun ov pv iv wr => ∃ (k : Nat) (p : Bool) (o : List Int), k ≤ l.length ∧ iv = .int .i64 (k : Int) ∧ Hid (putTo l x k = (p, o)) ∧ pv = .bool p ∧ OwnI wr w.heap.size ov o ∧ Below w.heap.size w wr) (fun _ _ iv _ => l.length - (intOf iv).toNat)
    case atStart => exact ⟨0, false, [], by omega, rfl, Lib.hid rfl, rfl, OwnI.made (World.ownsRow_made w #[] 0 (Nat.le_refl _) (by unfold maxLen; omega) rfl), (Below.refl _ _).alloc (Nat.le_refl _) _⟩
    case round =>
      obtain ⟨k, p, o, hk, rfl, hpo, rfl, ho, hb⟩ := hrel
      have hol : o.length ≤ 1000001 := by have := putTo_len l x k; rw [hpo.out] at this; simp only at this; split at this <;> omega
      by_cases hlt : k < l.length
      · obtain ⟨b, rfl, hy0⟩ := HA.out k hlt
        have HS : Hid (putTo l x (k + 1) = if p = false ∧ x < l.getD k 0 then (true, o ++ [x] ++ [l.getD k 0]) else (p, o ++ [l.getD k 0])) := Lib.hid (by rw [putTo, hpo.out])
        rw [get_getD l k hlt] at hy0
        obtain ⟨y, hy⟩ : ∃ y, y = l.getD k 0 := ⟨_, rfl⟩
        rw [← hy] at hy0 HS
        have hyw := (hb.cell (World.block_lt_of_cell? w _ hy0)).trans hy0
        have z0 : (0 : Int) ≤ (k : Int) := by omega
        have z1 : (k : Int) < (l.length : Int) := by omega
        clear hy
        by_cases hc : p = false ∧ x < y
        · rw [if_pos hc] at HS
          obtain ⟨rfl, hxy⟩ := hc
          go_wp2_with (first
            | (at_builtin; refine wpList_append_own _ rfl _ _ 40 rfl w.heap.size 3 i0 (.int .i64 0) 1 8 Tryz.underlying40 HI.out.1 HI.out.2.1 HI.out.2.2.1 HI.out.2.2.2 rfl (by decide) _ _ _ rfl (World.ownsRow.alloc ho1 _) ⟨w1.heap.size, 0, none⟩ 1 1 [.int .i64 y] rfl rfl (cell_one_new _ _ _) (one_i64 _) (by unfold maxLen; omega) (by omega) (le_alloc hb1 (Nat.le_refl _) _) ?_; intro v2 w2 hown2 hgrow2 _; have ho2 := OwnI.snoc hown2; have hb2 := (hb1.alloc hb1.size (.cells #[.int .i64 y] 3)).grown hgrow2 (by simp; have := hb1.size; omega) (fun k hk => (OwnI.lt ho1 k hk).1); clear hown2 hgrow2)
            | (at_builtin; refine wpList_append_own _ rfl _ _ 40 rfl w.heap.size 3 i0 (.int .i64 0) 1 8 Tryz.underlying40 HI.out.1 HI.out.2.1 HI.out.2.2.1 HI.out.2.2.2 rfl (by decide) _ _ _ rfl (World.ownsRow.alloc ho _) ⟨wr.heap.size, 0, none⟩ 1 1 [.int .i64 x] rfl rfl (cell_one_new _ _ _) (one_i64 _) (by unfold maxLen; omega) (by omega) (le_alloc hb (Nat.le_refl _) _) ?_; intro v1 w1 hown1 hgrow1 _; have ho1 := OwnI.snoc hown1; have hb1 := (hb.alloc hb.size (.cells #[.int .i64 x] 3)).grown hgrow1 (by simp; have := hb.size; omega) (fun k hk => (OwnI.lt ho k hk).1); have hol1 : (o ++ [x]).length ≤ 1000002 := (by simp; omega); have hyw1 := (hb1.cell (World.block_lt_of_cell? w _ hy0)).trans hy0; clear hown1 hgrow1))
          go_roundw
          case rel => exact ⟨k + 1, true, _, by omega, by go_num, HS, rfl, ho2, hb2⟩
          case measure => simp [intOf]; omega
        · rw [if_neg hc] at HS
          cases p with
          | true =>
            clear hc
            go_wp2_with (at_builtin; refine wpList_append_own _ rfl _ _ 40 rfl w.heap.size 3 i0 (.int .i64 0) 1 8 Tryz.underlying40 HI.out.1 HI.out.2.1 HI.out.2.2.1 HI.out.2.2.2 rfl (by decide) _ _ _ rfl (World.ownsRow.alloc ho _) ⟨wr.heap.size, 0, none⟩ 1 1 [.int .i64 y] rfl rfl (cell_one_new _ _ _) (one_i64 _) (by unfold maxLen; omega) (by omega) (le_alloc hb (Nat.le_refl _) _) ?_; intro v1 w1 hown1 hgrow1 _; have ho1 := OwnI.snoc hown1; have hb1 := (hb.alloc hb.size (.cells #[.int .i64 y] 3)).grown hgrow1 (by simp; have := hb.size; omega) (fun k hk => (OwnI.lt ho k hk).1); clear hown1 hgrow1)
            go_roundw
            case rel => exact ⟨k + 1, true, _, by omega, by go_num, HS, rfl, ho1, hb1⟩
            case measure => simp [intOf]; omega
          | false =>
            have hxy : decide (x < y) = false := by simpa using hc
            clear hc
            go_wp2_with (at_builtin; refine wpList_append_own _ rfl _ _ 40 rfl w.heap.size 3 i0 (.int .i64 0) 1 8 Tryz.underlying40 HI.out.1 HI.out.2.1 HI.out.2.2.1 HI.out.2.2.2 rfl (by decide) _ _ _ rfl (World.ownsRow.alloc ho _) ⟨wr.heap.size, 0, none⟩ 1 1 [.int .i64 y] rfl rfl (cell_one_new _ _ _) (one_i64 _) (by unfold maxLen; omega) (by omega) (le_alloc hb (Nat.le_refl _) _) ?_; intro v1 w1 hown1 hgrow1 _; have ho1 := OwnI.snoc hown1; have hb1 := (hb.alloc hb.size (.cells #[.int .i64 y] 3)).grown hgrow1 (by simp; have := hb.size; omega) (fun k hk => (OwnI.lt ho k hk).1); clear hown1 hgrow1)
            go_roundw
            case rel => exact ⟨k + 1, false, _, by omega, by go_num, HS, rfl, ho1, hb1⟩
            case measure => simp [intOf]; omega
      · obtain rfl : k = l.length := by omega
        have HP2 : Hid (put4 l x = if p = true then o else o ++ [x]) := Lib.hid (by rw [HP.out, hpo.out])
        clear HP
        cases p with
        | true =>
          rw [if_pos rfl] at HP2
          go_wp2_with fail
          go_ret
          exact ⟨_, rfl, by rw [HP2.out]; exact ho.base hB, hb⟩
        | false =>
          rw [if_neg (by simp)] at HP2
          go_wp2_with (at_builtin; refine wpList_append_own _ rfl _ _ 40 rfl w.heap.size 3 i0 (.int .i64 0) 1 8 Tryz.underlying40 HI.out.1 HI.out.2.1 HI.out.2.2.1 HI.out.2.2.2 rfl (by decide) _ _ _ rfl (World.ownsRow.alloc ho _) ⟨wr.heap.size, 0, none⟩ 1 1 [.int .i64 x] rfl rfl (cell_one_new _ _ _) (one_i64 _) (by unfold maxLen; omega) (by omega) (le_alloc hb (Nat.le_refl _) _) ?_; intro v1 w1 hown1 hgrow1 _; have ho1 := OwnI.snoc hown1; have hb1 := (hb.alloc hb.size (.cells #[.int .i64 x] 3)).grown hgrow1 (by simp; have := hb.size; omega) (fun k hk => (OwnI.lt ho k hk).1); clear hown1 hgrow1)
          go_ret
          exact ⟨_, rfl, by rw [HP2.out]; exact ho1.base hB, hb1⟩
end Go.Proofs.YtnbjcelfdppkcadGreat
namespace Go.Proofs.YtnbjcelfdppkcadGreat
open Go.RowKit

/-- The place of the first class that has this row, or -1. -/
def clsI : List (List Int) → Int → Int
  | [], _ => -1
  | r :: t, x => if x ∈ r then 0 else if clsI t x < 0 then -1 else clsI t x + 1
theorem clsI_ge : ∀ (ll : List (List Int)) (x : Int), -1 ≤ clsI ll x ∧ clsI ll x < ll.length
  | [], _ => by simp [clsI]
  | r :: t, x => by
    have := clsI_ge t x
    unfold clsI
    split
    · simp
    · split <;> simp <;> omega
theorem clsI_hit : ∀ (ll : List (List Int)) (x : Int) (k : Nat), k < ll.length → (∀ i, i < k → x ∉ ll.getD i []) → x ∈ ll.getD k [] → clsI ll x = (k : Int)
  | [], _, k, h, _, _ => absurd h (Nat.not_lt_zero _)
  | r :: t, x, 0, _, _, h => by
    have h' : x ∈ r := h
    unfold clsI; rw [if_pos h']; rfl
  | r :: t, x, k + 1, h1, h2, h3 => by
    have h4 : x ∉ r := h2 0 (by omega)
    have ih := clsI_hit t x k (by simp at h1; omega) (fun i hi => by have := h2 (i + 1) (by omega); simpa using this) (by simpa using h3)
    unfold clsI; rw [if_neg h4, ih, if_neg (by omega)]; simp
theorem clsI_none : ∀ (ll : List (List Int)) (x : Int), (∀ i, i < ll.length → x ∉ ll.getD i []) → clsI ll x = -1
  | [], _, _ => rfl
  | r :: t, x, h => by
    have h4 : x ∉ r := h 0 (by simp)
    have ih := clsI_none t x (fun i hi => by have := h (i + 1) (by simp; omega); simpa using this)
    unfold clsI; rw [if_neg h4, ih]; rfl
/-- The rows less one of each of the first k classes. -/
def errTo (ll : List (List Int)) : Nat → Int
  | 0 => 0
  | k + 1 => errTo ll k + max 0 (((ll.getD k []).length : Int) - 1)
theorem errTo_bd (ll : List (List Int)) (h : ∀ i, i < ll.length → (ll.getD i []).length ≤ 1048576) : ∀ k, k ≤ ll.length → 0 ≤ errTo ll k ∧ errTo ll k ≤ 1048576 * k
  | 0, _ => by simp [errTo]
  | k + 1, hk => by
    have ih := errTo_bd ll h k (by omega)
    have := h k (by omega)
    unfold errTo
    omega
/-- A row lies in the class of q that f lies in; a class lies within one class of q. -/
def inQ (q : List (List Int)) (f x : Int) : Bool := decide (0 ≤ clsI q x ∧ clsI q x = clsI q f)
def finR (q : List (List Int)) (r : List Int) : Bool := !q.isEmpty && r.all (inQ q (r.getD 0 0))
def finB (p q : List (List Int)) : Bool := p.all (finR q)
end Go.Proofs.YtnbjcelfdppkcadGreat
