/- DecodeVarint, the program's and the model's, by contract. Conditions: none. -/
import Derived.Test.YtcjjlgkimklegaaDoorEncVar
import Derived.Deep.RegionHeld3
import Derived.Lib.Strings
namespace Go.Proofs.YtcjjlgkimklegaaDoor
open Go.RowKit

/-- The number that groups of seven bits stand for, least first. -/
def gv : List UInt8 → Nat
  | [] => 0
  | b :: t => b.toNat % 128 + 128 * gv t
theorem gv_snoc (t : List UInt8) (b : UInt8) : gv (t ++ [b]) = gv t + 128 ^ t.length * (b.toNat % 128) := by
  induction t with
  | nil => simp [gv]
  | cons a t ih => rw [List.cons_append, gv, gv, ih, List.length_cons, Nat.pow_succ, Nat.mul_add, Nat.mul_comm (128 ^ t.length) 128, Nat.mul_assoc]; omega
theorem gv_lt (t : List UInt8) : gv t < 128 ^ t.length := by
  induction t with
  | nil => simp [gv]
  | cons a t ih => rw [gv, List.length_cons, Nat.pow_succ]; omega
theorem gv_lt7 (t : List UInt8) (h : t.length ≤ 7) : gv t ≤ 562949953421311 := by
  have := gv_lt t
  have h2 : 128 ^ t.length ≤ 128 ^ 7 := Nat.pow_le_pow_right (by omega) h
  omega

/-- A varint ends with its only byte below 128. -/
theorem vi_ends (n : Nat) : ∃ l b, vi n = l ++ [b] ∧ b.toNat < 128 ∧ ∀ c ∈ l, 128 ≤ c.toNat := by
  induction n using Nat.strongRecOn with
  | ind n ih =>
    by_cases h : n < 128
    · exact ⟨[], UInt8.ofNat n, by rw [vi_last h]; rfl, by simp; omega, by simp⟩
    · obtain ⟨l, b, h1, h2, h3⟩ := ih (n / 128) (by omega)
      refine ⟨UInt8.ofNat (128 + n % 128) :: l, b, by rw [vi_more (by omega), h1]; rfl, h2, ?_⟩
      intro c hc
      rcases List.mem_cons.1 hc with rfl | hc
      · simp; omega
      · exact h3 c hc
theorem vi_last_small {n : Nat} {l : List UInt8} {b : UInt8} (h : vi n = l ++ [b]) : b.toNat < 128 ∧ ∀ c ∈ l, 128 ≤ c.toNat := by
  obtain ⟨l', b', h1, h2, h3⟩ := vi_ends n
  rw [h1] at h
  obtain ⟨rfl, h4⟩ := List.append_inj' h rfl
  obtain rfl : b' = b := by simpa using h4
  exact ⟨h2, h3⟩

def okAt (l : List UInt8) (k : Nat) : Prop := vi (gv (l.take k)) = l.take k
instance (l : List UInt8) (k : Nat) : Decidable (okAt l k) := by unfold okAt; infer_instance
theorem take_snoc' (l : List UInt8) (k : Nat) (h : k < l.length) : l.take (k + 1) = l.take k ++ [l[k]] := List.take_succ_eq_append_getElem h
theorem okAt_end {l : List UInt8} {k : Nat} (hk : k < l.length) (h : okAt l (k + 1)) : l[k].toNat < 128 ∧ ∀ j (hj : j < k), 128 ≤ (l[j]'(by omega)).toNat := by
  unfold okAt at h
  have h2 := vi_last_small (h.trans (take_snoc' l k hk))
  refine ⟨h2.1, fun j hj => h2.2 _ ?_⟩
  rw [List.mem_take_iff_getElem]
  exact ⟨j, by omega, rfl⟩
def DV (l : List UInt8) (n k : Int) : Prop :=
  (∃ j : Nat, j < 7 ∧ j < l.length ∧ okAt l (j + 1) ∧ n = (gv (l.take (j + 1)) : Int) ∧ k = (j : Int) + 1) ∨ (n = 0 ∧ k = 0 ∧ ∀ j : Nat, j < 7 → j < l.length → ¬ okAt l (j + 1))
theorem DV.unique {l : List UInt8} {n k n' k' : Int} (h : DV l n k) (h' : DV l n' k') : n = n' ∧ k = k' := by
  rcases h with ⟨j, a1, a2, a3, rfl, rfl⟩ | ⟨rfl, rfl, a⟩ <;> rcases h' with ⟨j', b1, b2, b3, rfl, rfl⟩ | ⟨rfl, rfl, b⟩
  · have : j = j' := by
      have e1 := okAt_end a2 a3
      have e2 := okAt_end b2 b3
      rcases Nat.lt_trichotomy j j' with h | h | h
      · have := e2.2 j h; omega
      · exact h
      · have := e1.2 j' h; omega
    subst this; exact ⟨rfl, rfl⟩
  · exact absurd a3 (b j a1 a2)
  · exact absurd b3 (a j' b1 b2)
  · exact ⟨rfl, rfl⟩
/-- The backward sum of the model. -/
theorem gv_back (l : List UInt8) (k i : Nat) (hi : i < k) (hk : k ≤ l.length) : gv ((l.take k).drop i) = (l[i]'(by omega)).toNat % 128 + 128 * gv ((l.take k).drop (i + 1)) := by
  rw [List.drop_eq_getElem_cons (by simp; omega), gv]; simp

theorem gv_back_start (l : List UInt8) (k : Nat) (hk : k ≤ l.length) : gv ((l.take k).drop k) = 0 := by
  rw [List.drop_eq_nil_of_le (by simp; omega)]; rfl
theorem gv_back_bd (l : List UInt8) (k q : Nat) (hk : k ≤ 7) : gv ((l.take k).drop (q + 1)) ≤ 4398046511103 := by
  have := gv_lt ((l.take k).drop (q + 1))
  have h2 : 128 ^ ((l.take k).drop (q + 1)).length ≤ 128 ^ 6 := Nat.pow_le_pow_right (by omega) (by simp; omega)
  omega
def NotYet (l : List UInt8) (k : Nat) : Prop := ∀ j : Nat, j < k → j < l.length → ¬ okAt l (j + 1)

theorem NotYet.succ {l : List UInt8} {k : Nat} (h : NotYet l k) (hk : ¬ okAt l (k + 1)) : NotYet l (k + 1) := by
  intro j h1 h2
  by_cases e : j = k
  · rw [e]; exact hk
  · exact h j (by omega) h2
def TwoInts (P : Int → Int → Prop) (w : World) (e : Ending) (w' : World) : Prop := ∃ n k : Int, P n k ∧ e = .returned (.tuple #[.int .i64 n, .int .i64 k]) ∧ Below w.heap.size w w'

theorem eq_test {s : ByteArray} {m k : Nat} (hm : m = gv ((s.data.toList.take k).drop 0)) : ((viB (m : Int)).toList == (s.extract 0 k).toList) = decide (okAt s.data.toList k) := by
  rw [ByteArray.toList_eq, ByteArray.toList_eq, Lib.extract_data]
  simp only [List.drop_zero, Nat.sub_zero] at hm ⊢
  subst hm
  rw [Bool.eq_iff_iff, beq_iff_eq, decide_eq_true_iff]
  exact Iff.rfl
/-- No byte below 128 so far. -/
def AllHigh (l : List UInt8) (k : Nat) : Prop := ∀ j (_ : j < k) (hj : j < l.length), 128 ≤ l[j].toNat
theorem AllHigh.notYet {l : List UInt8} {k : Nat} (h : AllHigh l k) : NotYet l k := fun j h1 h2 ho => by
  have := (okAt_end h2 ho).1
  have := h j h1 h2
  omega
theorem AllHigh.succ {l : List UInt8} {k : Nat} (h : AllHigh l k) (hk : k < l.length) (hb : 128 ≤ l[k].toNat) : AllHigh l (k + 1) := fun j h1 h2 => by
  by_cases e : j = k
  · subst e; exact hb
  · exact h j (by omega) h2
theorem AllHigh.stop {l : List UInt8} {k : Nat} (h : AllHigh l k) (hk : k < l.length) (hb : l[k].toNat < 128) (hok : ¬ okAt l (k + 1)) : DV l 0 0 :=
  .inr ⟨rfl, rfl, fun j _ h2 ho => by
    rcases Nat.lt_trichotomy j k with e | e | e
    · exact h.notYet j e h2 ho
    · subst e; exact hok ho
    · have := (okAt_end h2 ho).2 k e; omega⟩
theorem sv_val (b : UInt8) : wrap64 (bits .and .u8 (b.toNat : Int) 127) = ((b.toNat % 128 : Nat) : Int) := by
  have := b.toNat_lt
  rw [u8_and_127 (by omega) (by omega)]; unfold wrap64; omega
theorem sv_step (b : UInt8) (m k : Nat) (hm : m < 128 ^ k) (hk : k < 7) :
    bits .or .i64 (m : Int) (wrap64 (wrap64 (bits .and .u8 (b.toNat : Int) 127) * 2 ^ (7 * k))) = ((m + 128 ^ k * (b.toNat % 128) : Nat) : Int) := by
  rw [sv_val]
  have hb : b.toNat % 128 < 128 := Nat.mod_lt _ (by omega)
  generalize b.toNat % 128 = c at hb
  have e : wrap64 ((c : Int) * 2 ^ (7 * k)) = ((128 ^ k * c : Nat) : Int) := by
    match k, hk with
    | 0, _ => unfold wrap64; omega
    | 1, _ => unfold wrap64; omega
    | 2, _ => unfold wrap64; omega
    | 3, _ => unfold wrap64; omega
    | 4, _ => unfold wrap64; omega
    | 5, _ => unfold wrap64; omega
    | 6, _ => unfold wrap64; omega
  rw [e]
  have hp : (2 : Nat) ^ (7 * k) = 128 ^ k := by rw [Nat.pow_mul]
  have h1 : 128 ^ k ≤ 128 ^ 6 := Nat.pow_le_pow_right (by omega) (by omega)
  have h2 : 128 ^ k * c ≤ 128 ^ 6 * 127 := Nat.mul_le_mul h1 (by omega)
  rw [i64_or_low (7 * k) (by omega) (by omega) (by rw [hp]; omega) (by omega) (by omega) (by rw [hp]; rw [← Int.natCast_emod, Nat.mul_mod_right]; rfl)]
  omega
theorem gv_take (s : ByteArray) (k : Nat) (hk : k < s.size) : gv (s.data.toList.take k) + 128 ^ k * ((s[k]'hk).toNat % 128) = gv (s.data.toList.take (k + 1)) := by
  have h : k < s.data.toList.length := by rw [← str_size]; exact hk
  rw [take_snoc' _ k h, gv_snoc, List.length_take, Nat.min_eq_left (by omega)]; rfl
theorem gv_take_lt (s : ByteArray) (k : Nat) (hk : k ≤ s.size) : gv (s.data.toList.take k) < 128 ^ k := by
  have := gv_lt (s.data.toList.take k)
  rwa [List.length_take, Nat.min_eq_left (by rw [← str_size]; exact hk)] at this
theorem eq_test' {s : ByteArray} {n : Nat} {k : Nat} (hm : n = gv (s.data.toList.take k)) : ((viB (n : Int)).toList == (s.extract 0 k).toList) = decide (okAt s.data.toList k) := eq_test (by rw [hm]; rfl)
set_option maxRecDepth 20000 in
set_option maxHeartbeats 400000 in
theorem implDV (s : ByteArray) (w : World) (hs : s.size ≤ 1048576) :
    Calls Tryd.prog 10 #[.string s] w (TwoInts (DV s.data.toList) w) := by
  go_enter Tryd.func10, Tryd.ntmps10
  go_wp2_with fail
  go_loopw [4, 5] (fun n iv wr => ∃ (k m : Nat), k ≤ 7 ∧ k ≤ s.size ∧ iv = .int .i64 (k : Int) ∧ n = .int .i64 (m : Int) ∧ Hid (m = gv (s.data.toList.take k)) ∧ AllHigh s.data.toList k ∧ Below w.heap.size w wr) (fun _ iv _ => (8 - intOf iv).toNat)
  case atStart => exact ⟨0, 0, by omega, by omega, rfl, rfl, Lib.hid rfl, fun j h => by omega, Below.refl _ _⟩
  case round =>
    obtain ⟨k, m, hk7, hks, rfl, rfl, hm, hh, hb⟩ := hrel
    by_cases h7 : k < 7
    · by_cases hlt : k < s.size
      · go_wp2_with fail
        · have hhi : 128 ≤ (s[k].toNat : Int) := by assumption
          rw [sv_step s[k] m k (by rw [hm.out]; exact gv_take_lt s k (by omega)) h7]
          go_roundw
          case rel => exact ⟨k + 1, _, by omega, by omega, by go_num, rfl, Lib.hid (by rw [hm.out]; exact gv_take s k hlt), hh.succ (by rw [← str_size]; exact hlt) (by show 128 ≤ (s[k]'hlt).toNat; omega), hb⟩
          case measure => simp [intOf]; omega
        · have hlo : (s[k].toNat : Int) < 128 := by assumption
          rw [sv_step s[k] m k (by rw [hm.out]; exact gv_take_lt s k (by omega)) h7]
          obtain ⟨n, hn⟩ : ∃ n : Nat, n = m + 128 ^ k * (s[k].toNat % 128) := ⟨_, rfl⟩
          rw [← hn]
          have HN : Hid (n = gv (s.data.toList.take (k + 1))) := Lib.hid (by rw [hn, hm.out]; exact gv_take s k hlt)
          clear hn
          have hm7 : (n : Int) ≤ 562949953421311 := by rw [HN.out]; have := gv_lt7 (s.data.toList.take (k + 1)) (by simp; omega); omega
          have z0 : (0 : Int) ≤ (k : Int) + 1 := by omega
          have z1 : (k : Int) + 1 ≤ (s.size : Int) := by omega
          have hw : IntKind.i64.wrap ((k : Int) + 1) = (k : Int) + 1 := IntWalk.i64_in _ (by omega)
          have HL := Lib.hid hlo
          clear hlo
          go_region_held3 (fun _ => True) (exact trivial) (first | (go_at_call 9; refine (implEV _ _ (by omega) (by omega)).mono ?_; rintro e w' ⟨rfl, hb2⟩))
          have hb3 : Below w.heap.size w w' := hb.drew.trans (hb2.mono hb.size)
          have hlow : (s.data.toList[k]'(by rw [← str_size]; exact hlt)).toNat < 128 := by
            have := HL.out
            show (s[k]'hlt).toNat < 128
            omega
          have HW := Lib.hid hlow
          clear hw hlow
          by_cases hok : okAt s.data.toList (k + 1)
          · have heq : ((viB (n : Int)).toList == (s.extract 0 (k + 1)).toList) = true := by rw [eq_test' HN.out, decide_eq_true hok]
            rw [heq]
            clear heq
            go_wp2_with fail
            go_ret2
            exact ⟨_, _, .inl ⟨k, h7, by rw [← str_size]; exact hlt, hok, by rw [HN.out], rfl⟩, rfl, hb3⟩
          · have heq : ((viB (n : Int)).toList == (s.extract 0 (k + 1)).toList) = false := by rw [eq_test' HN.out, decide_eq_false hok]
            rw [heq]
            clear heq
            go_wp2_with fail
            go_ret2
            exact ⟨0, 0, hh.stop (by rw [← str_size]; exact hlt) HW.out hok, rfl, hb3⟩
      · go_wp2_with fail
        go_ret2
        exact ⟨0, 0, .inr ⟨rfl, rfl, fun j h1 h2 => hh.notYet j (by rw [← str_size] at h2; omega) h2⟩, rfl, hb⟩
    · go_wp2_with fail
      all_goals
        go_ret2
        exact ⟨0, 0, .inr ⟨rfl, rfl, fun j h1 h2 => hh.notYet j (by omega) h2⟩, rfl, hb⟩
end Go.Proofs.YtcjjlgkimklegaaDoor
