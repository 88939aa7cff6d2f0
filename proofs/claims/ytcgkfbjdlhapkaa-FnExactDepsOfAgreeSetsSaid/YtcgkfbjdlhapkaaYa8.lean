/- Texts of this claim, merged: PmB, AgrC, AgrD, AgrE, AscS. Conditions: as stated. -/
import Derived.Test.YtcgkfbjdlhapkaaYa7
import Derived.Test.YtcgkfbjdlhapkaaYa3
import Derived.BigQuiet
namespace Go.Proofs.Ytcgkfbjdlhapkaa

theorem or_fin : ∀ (L : Fin 32) (R : Fin 5) (j : Fin 5), bitB (L.val ||| 2 ^ R.val) j.val = (bitB L.val j.val || decide (j.val = R.val)) := by decide +kernel
theorem or_lt : ∀ (c : Fin 6) (L : Fin 32) (R : Fin 5), L.val < 2 ^ c.val → R.val < c.val → (L.val ||| 2 ^ R.val) < 2 ^ c.val := by decide +kernel
theorem pow_bit : ∀ (R : Fin 5) (j : Fin 5), bitB (2 ^ R.val) j.val = decide (j.val = R.val) := by decide +kernel
theorem lt32 {c S : Nat} (hc : c ≤ 5) (hS : S < 2 ^ c) : S < 32 := by
  have : 2 ^ c ≤ 32 := by
    rcases (show c = 0 ∨ c = 1 ∨ c = 2 ∨ c = 3 ∨ c = 4 ∨ c = 5 by omega) with rfl | rfl | rfl | rfl | rfl | rfl <;> decide
  omega
section
variable {c : Nat} {ll : List (List Int)} {m : Int} {L R : Nat}
/-- Two rows agree in both sides if they agree in each. -/
theorem agB_or (hc : c ≤ 5) (hL : L < 2 ^ c) (hR : R < c) (i k : Nat) : agB c ll m ((L ||| 2 ^ R : Nat) : Int) i k = true ↔ agB c ll m (L : Int) i k = true ∧ agB c ll m ((2 ^ R : Nat) : Int) i k = true := by
  have h32 := lt32 hc hL
  have hO := or_lt ⟨c, by omega⟩ ⟨L, h32⟩ ⟨R, by omega⟩ hL hR
  have hP : 2 ^ R < 2 ^ c := Nat.pow_lt_pow_right (by omega) hR
  rw [agB_iff c ll m _ i k hc hO, agB_iff c ll m _ i k hc hL, agB_iff c ll m _ i k hc hP]
  constructor
  · intro h
    refine ⟨fun j hj hb => h j hj ?_, fun j hj hb => h j hj ?_⟩
    · have := or_fin ⟨L, h32⟩ ⟨R, by omega⟩ ⟨j, by omega⟩
      simp only at this
      rw [this, hb]; rfl
    · have h1 := or_fin ⟨L, h32⟩ ⟨R, by omega⟩ ⟨j, by omega⟩
      have h2 := pow_bit ⟨R, by omega⟩ ⟨j, by omega⟩
      simp only at h1 h2
      rw [h2] at hb
      rw [h1, hb]; simp
  · rintro ⟨h1, h2⟩ j hj hb
    have g1 := or_fin ⟨L, h32⟩ ⟨R, by omega⟩ ⟨j, by omega⟩
    have g2 := pow_bit ⟨R, by omega⟩ ⟨j, by omega⟩
    simp only at g1 g2
    rw [g1, Bool.or_eq_true] at hb
    rcases hb with hb | hb
    · exact h1 j hj hb
    · exact h2 j hj (by rw [g2]; exact hb)
/-- Equal on the right: agreeing in the set of that one column. -/
theorem agB_one (hc : c ≤ 5) (hR : R < c) (i k : Nat) : agB c ll m ((2 ^ R : Nat) : Int) i k = bitB (agrTo m (ll.getD i []) (ll.getD k []) c).toNat R := by
  have hP : 2 ^ R < 2 ^ c := Nat.pow_lt_pow_right (by omega) hR
  obtain ⟨X, h1, -, h3, h4⟩ := agrTo_bit m (ll.getD i []) (ll.getD k []) c hc
  rw [Bool.eq_iff_iff, agB_iff c ll m _ i k hc hP, h1, show ((X : Int)).toNat = X by omega, h4 R (by omega), decide_eq_true hR, Bool.true_and]
  constructor
  · intro h
    refine h R hR ?_
    have := pow_bit ⟨R, by omega⟩ ⟨R, by omega⟩
    simp only at this
    rw [this]; simp
  · intro h j hj hb
    have := pow_bit ⟨R, by omega⟩ ⟨j, by omega⟩
    simp only at this
    rw [this, decide_eq_true_eq] at hb
    subst hb
    exact h
theorem badB_iff (hc : c ≤ 5) (hR : R < c) (i k : Nat) : badB c ll m L R i k = true ↔ agB c ll m (L : Int) i k = true ∧ ¬ agB c ll m ((2 ^ R : Nat) : Int) i k = true := by
  unfold badB
  rw [Bool.and_eq_true, Bool.not_eq_true', agB_one hc hR]
  constructor
  · rintro ⟨h1, h2⟩; exact ⟨h1, by rw [h2]; simp⟩
  · rintro ⟨h1, h2⟩; exact ⟨h1, by simpa using h2⟩
/-- It holds if no two rows agree on the left alone. -/
def HoldsAll (c : Nat) (ll : List (List Int)) (m : Int) (L R : Nat) : Prop := ∀ i k, i < k → k < ll.length → agB c ll m (L : Int) i k = true → agB c ll m ((2 ^ R : Nat) : Int) i k = true
theorem pairI_holds (hc : c ≤ 5) (hR : R < c) : (pairI (badB c ll m L R) ll.length).1 < 0 ↔ HoldsAll c ll m L R := by
  rcases pairI_is (badB c ll m L R) ll.length with ⟨h1, -, h⟩ | ⟨i, k, h1, -, h2, h3, h4, -⟩
  · rw [h1]
    refine ⟨fun _ i k hik hk hL => ?_, fun _ => by omega⟩
    have hb := h i k hik hk
    by_cases hr : agB c ll m ((2 ^ R : Nat) : Int) i k = true
    · exact hr
    · rw [(badB_iff hc hR i k).2 ⟨hL, hr⟩] at hb; cases hb
  · rw [h1]
    refine ⟨fun h => by omega, fun h => ?_⟩
    obtain ⟨g1, g2⟩ := (badB_iff hc hR i k).1 h4
    exact (g2 (h i k h2 h3 g1)).elim
/-- The product of the sides' partitions is the partition of both. -/
theorem parL_product (hc : c ≤ 5) (hL : L < 2 ^ c) (hR : R < c) (h40 : ll.length ≤ 40) : proS (parL c ll m L) (parL c ll m (2 ^ R)) (ll.length : Int) = parL c ll m (L ||| 2 ^ R) := by
  have hO : (L ||| 2 ^ R) < 2 ^ c := or_lt ⟨c, by omega⟩ ⟨L, lt32 hc hL⟩ ⟨R, by omega⟩ hL hR
  have hP : 2 ^ R < 2 ^ c := Nat.pow_lt_pow_right (by omega) hR
  have pL := parL_part (m := m) hc hL h40
  have pR := parL_part (m := m) hc hP h40
  rw [proS_eq _ _ _ pL pR, show ((ll.length : Int)).toNat = ll.length by omega]
  unfold prL
  rw [show parL c ll m (L ||| 2 ^ R) = ((List.range ll.length).filter fun a => repB c ll m ((L ||| 2 ^ R : Nat) : Int) a && decide (1 < (clsC c ll m ((L ||| 2 ^ R : Nat) : Int) a).length)).map (clsC c ll m ((L ||| 2 ^ R : Nat) : Int)) from rfl]
  -- where a row has a partner in both, the product's class is its class
  have hpart : ∀ a, a < ll.length → (∃ y, y < ll.length ∧ y ≠ a ∧ agB c ll m ((L ||| 2 ^ R : Nat) : Int) a y = true) →
      (0 ≤ clsI (parL c ll m L) (a : Int) ∧ 0 ≤ clsI (parL c ll m (2 ^ R)) (a : Int)) ∧ ∀ x : Nat, x < ll.length → ((clsI (parL c ll m L) (x : Int) = clsI (parL c ll m L) (a : Int) ∧ clsI (parL c ll m (2 ^ R)) (x : Int) = clsI (parL c ll m (2 ^ R)) (a : Int)) ↔ agB c ll m ((L ||| 2 ^ R : Nat) : Int) a x = true) := by
    rintro a ha ⟨y, hy, hne, hay⟩
    obtain ⟨y1, y2⟩ := (agB_or hc hL hR a y).1 hay
    have i1 := (clsI_in hc hL h40 ha).2 ⟨y, hy, hne, y1⟩
    have i2 := (clsI_in hc hP h40 ha).2 ⟨y, hy, hne, y2⟩
    refine ⟨⟨i1, i2⟩, fun x hx => ?_⟩
    by_cases hxa : x = a
    · subst hxa
      exact ⟨fun _ => agB_trans hc hO hay (agB_symm hc hO hay), fun _ => ⟨rfl, rfl⟩⟩
    · rw [agB_or hc hL hR, ← clsI_same hc hL h40 ha hx (fun e => hxa e.symm), ← clsI_same hc hP h40 ha hx (fun e => hxa e.symm)]
      constructor
      · rintro ⟨h1, h2⟩; exact ⟨⟨h1.symm, i1⟩, h2.symm, i2⟩
      · rintro ⟨⟨h1, -⟩, h2, -⟩; exact ⟨h1.symm, h2.symm⟩
  have hcls : ∀ a, a < ll.length → repB c ll m ((L ||| 2 ^ R : Nat) : Int) a = true → (∃ y, y < ll.length ∧ y ≠ a ∧ agB c ll m ((L ||| 2 ^ R : Nat) : Int) a y = true) → prC (parL c ll m L) (parL c ll m (2 ^ R)) (clsI (parL c ll m L) (a : Int)).toNat (clsI (parL c ll m (2 ^ R)) (a : Int)).toNat = clsC c ll m ((L ||| 2 ^ R : Nat) : Int) a := by
    intro a ha hrep hex
    obtain ⟨⟨i1, i2⟩, hs⟩ := hpart a ha hex
    obtain ⟨y, hy, hne, hay⟩ := hex
    have hya : a < y := by
      by_cases hlt : y < a
      · unfold repB at hrep
        rw [Bool.not_eq_true', List.any_eq_false] at hrep
        exact (hrep y (List.mem_range.2 hlt) (agB_symm hc hO hay)).elim
      · omega
    have hm : a ∈ reps c ll m (L ||| 2 ^ R) := reps_mem.2 ⟨ha, hrep, (clsC_two ha).2 ⟨y, hya, hy, hay⟩⟩
    have hge := clsI_ge (parL c ll m L) (a : Int)
    refine ascH_unique (r := fun x y => x < y) (fun x => by omega) (fun x y z => by omega) _ _ ?_ (clsC_asc _ _) fun x => ?_
    · obtain ⟨-, hcl⟩ := partP_iff.mp pL
      have h4 := (hcl (clsI (parL c ll m L) (a : Int)).toNat (by omega)).2.2.2.1
      unfold prC
      refine List.Pairwise.filter _ ?_
      rw [List.pairwise_iff_getElem]
      intro i j hi hj hij
      have := asc_lt h4 (i := i) (j - i - 1) (by omega)
      rw [show i + (j - i - 1) + 1 = j by omega, ← get_getD _ _ hi, ← get_getD _ _ hj] at this
      exact this
    · rw [prC_mem pL pR i1 i2, rep_mem hc hO hm]
      constructor
      · rintro ⟨h1, h2⟩
        have hx : x ∈ (parL c ll m L).getD (clsI (parL c ll m L) x).toNat [] := (clsI_part pL (by omega)).2 (by omega)
        obtain ⟨e, hmm⟩ := parL_get (c := c) (ll := ll) (m := m) (S := L) (i := (clsI (parL c ll m L) x).toNat) (by omega)
        rw [e] at hx
        obtain ⟨k, k1, rfl, -⟩ := (rep_mem hc hL hmm).1 hx
        exact ⟨k, k1, rfl, (hs k k1).1 ⟨h1, h2⟩⟩
      · rintro ⟨k, k1, rfl, k3⟩
        exact (hs k k1).2 k3
  have hfil : ∀ a, a < ll.length → (rep2 (parL c ll m L) (parL c ll m (2 ^ R)) a && decide (1 < (prC (parL c ll m L) (parL c ll m (2 ^ R)) (clsI (parL c ll m L) (a : Int)).toNat (clsI (parL c ll m (2 ^ R)) (a : Int)).toNat).length)) = (repB c ll m ((L ||| 2 ^ R : Nat) : Int) a && decide (1 < (clsC c ll m ((L ||| 2 ^ R : Nat) : Int) a).length)) := by
    intro a ha
    by_cases hex : ∃ y, y < ll.length ∧ y ≠ a ∧ agB c ll m ((L ||| 2 ^ R : Nat) : Int) a y = true
    · obtain ⟨⟨i1, i2⟩, hs⟩ := hpart a ha hex
      have hrr : rep2 (parL c ll m L) (parL c ll m (2 ^ R)) a = repB c ll m ((L ||| 2 ^ R : Nat) : Int) a := by
        unfold rep2 repB
        rw [decide_eq_true ⟨i1, i2⟩, Bool.true_and]
        congr 1
        rw [Bool.eq_iff_iff, List.any_eq_true, List.any_eq_true]
        constructor
        · rintro ⟨b, hb, h⟩
          exact ⟨b, hb, agB_symm hc hO ((hs b (by have := List.mem_range.1 hb; omega)).1 (of_decide_eq_true h))⟩
        · rintro ⟨b, hb, h⟩
          exact ⟨b, hb, decide_eq_true ((hs b (by have := List.mem_range.1 hb; omega)).2 (agB_symm hc hO h))⟩
      rw [hrr]
      cases hrep : repB c ll m ((L ||| 2 ^ R : Nat) : Int) a with
      | false => rfl
      | true => rw [hcls a ha hrep hex]
    · have h2 : ¬ 1 < (clsC c ll m ((L ||| 2 ^ R : Nat) : Int) a).length := fun h => by
        obtain ⟨k, k1, k2, k3⟩ := (clsC_two ha).1 h
        exact hex ⟨k, k2, by omega, k3⟩
      rw [decide_eq_false h2, Bool.and_false]
      cases hr2 : rep2 (parL c ll m L) (parL c ll m (2 ^ R)) a with
      | false => rfl
      | true =>
        rw [Bool.true_and, decide_eq_false_iff_not]
        intro hlen
        have hr2' := hr2
        unfold rep2 at hr2'
        rw [Bool.and_eq_true, decide_eq_true_eq] at hr2'
        obtain ⟨⟨i1, i2⟩, -⟩ := hr2'
        have hmemx : ∀ x, x ∈ prC (parL c ll m L) (parL c ll m (2 ^ R)) (clsI (parL c ll m L) (a : Int)).toNat (clsI (parL c ll m (2 ^ R)) (a : Int)).toNat → x = (a : Int) := by
          intro x hx
          obtain ⟨h1, h3⟩ := (prC_mem pL pR i1 i2 x).1 hx
          have hge := clsI_ge (parL c ll m L) x
          have hxm : x ∈ (parL c ll m L).getD (clsI (parL c ll m L) x).toNat [] := (clsI_part pL (by omega)).2 (by omega)
          obtain ⟨e, hmm⟩ := parL_get (c := c) (ll := ll) (m := m) (S := L) (i := (clsI (parL c ll m L) x).toNat) (by omega)
          rw [e] at hxm
          obtain ⟨k, k1, rfl, -⟩ := (rep_mem hc hL hmm).1 hxm
          by_cases hka : k = a
          · rw [hka]
          · exact (hex ⟨k, k1, hka, (agB_or hc hL hR a k).2 ⟨(clsI_same hc hL h40 ha k1 (fun e => hka e.symm)).1 ⟨h1.symm, i1⟩, (clsI_same hc hP h40 ha k1 (fun e => hka e.symm)).1 ⟨h3.symm, i2⟩⟩⟩).elim
        have hasc : (prC (parL c ll m L) (parL c ll m (2 ^ R)) (clsI (parL c ll m L) (a : Int)).toNat (clsI (parL c ll m (2 ^ R)) (a : Int)).toNat).Pairwise (fun x y => x < y) := by
          obtain ⟨-, hcl⟩ := partP_iff.mp pL
          have hge := clsI_ge (parL c ll m L) (a : Int)
          have h4 := (hcl (clsI (parL c ll m L) (a : Int)).toNat (by omega)).2.2.2.1
          unfold prC
          refine List.Pairwise.filter _ ?_
          rw [List.pairwise_iff_getElem]
          intro i j hi hj hij
          have := asc_lt h4 (i := i) (j - i - 1) (by omega)
          rw [show i + (j - i - 1) + 1 = j by omega, ← get_getD _ _ hi, ← get_getD _ _ hj] at this
          exact this
        match hq : prC (parL c ll m L) (parL c ll m (2 ^ R)) (clsI (parL c ll m L) (a : Int)).toNat (clsI (parL c ll m (2 ^ R)) (a : Int)).toNat, hlen with
        | x :: y :: t, _ =>
          rw [hq] at hmemx hasc
          have hx := hmemx x (by simp)
          have hy := hmemx y (by simp)
          rw [List.pairwise_cons] at hasc
          have := hasc.1 y (by simp)
          omega
  rw [List.filter_congr (fun a ha => hfil a (List.mem_range.1 ha))]
  refine List.map_congr_left fun a ha => ?_
  have hm : a ∈ reps c ll m (L ||| 2 ^ R) := ha
  obtain ⟨h1, h2, h3⟩ := reps_mem.1 hm
  obtain ⟨k, k1, k2, k3⟩ := (clsC_two h1).1 h3
  exact hcls a h1 h2 ⟨k, k2, by omega, k3⟩
end
end Go.Proofs.Ytcgkfbjdlhapkaa
namespace Go.Proofs.Ytcgkfbjdlhapkaa
open Go.RowKit

def agrOf (c : Int) (ll : List (List Int)) (m i k : Int) : Int := if fineT c ll m = true ∧ (0 ≤ i ∧ i ≤ ll.length - 1) ∧ (0 ≤ k ∧ k ≤ ll.length - 1) then agrTo m (ll.getD i.toNat []) (ll.getD k.toNat []) c.toNat else 0
end Go.Proofs.Ytcgkfbjdlhapkaa
namespace Go.Proofs.Ytcgkfbjdlhapkaa
open Go.RowKit

/-- The list l0 with the agree sets of row i and the n rows behind it. -/
def agIn (c : Nat) (ll : List (List Int)) (m : Int) (i : Nat) (l0 : List Int) : Nat → List Int
  | 0 => l0
  | n + 1 => put4 (agIn c ll m i l0 n) (agrTo m (ll.getD i []) (ll.getD (i + 1 + n) []) c)
def agOut (c : Nat) (ll : List (List Int)) (m : Int) : Nat → List Int
  | 0 => []
  | i + 1 => agIn c ll m i (agOut c ll m i) (ll.length - (i + 1))
def agrS (c : Int) (ll : List (List Int)) (m : Int) : List Int := if fineT c ll m = true then agOut c.toNat ll m ll.length else []
theorem agIn_len (c : Nat) (ll : List (List Int)) (m : Int) (i : Nat) (l0 : List Int) (n : Nat) : (agIn c ll m i l0 n).length ≤ l0.length + n := by
  induction n with
  | zero => simp [agIn]
  | succ n ih => have := put4_len (agIn c ll m i l0 n) (agrTo m (ll.getD i []) (ll.getD (i + 1 + n) []) c); unfold agIn; omega
theorem agOut_len (c : Nat) (ll : List (List Int)) (m : Int) (i : Nat) (h : ll.length ≤ 40) : (agOut c ll m i).length ≤ 40 * i := by
  induction i with
  | zero => simp [agOut]
  | succ i ih => have := agIn_len c ll m i (agOut c ll m i) (ll.length - (i + 1)); unfold agOut; omega
theorem agrS_len (c : Int) (ll : List (List Int)) (m : Int) : (agrS c ll m).length ≤ 1600 := by
  unfold agrS
  split
  · rename_i h
    have hT : isT c ll = true := by unfold fineT at h; simp at h; exact h.1
    have h3 := (isT_bd hT).2.2
    have := agOut_len c.toNat ll m ll.length h3
    omega
  · simp
end Go.Proofs.Ytcgkfbjdlhapkaa
namespace Go.Proofs.Ytcgkfbjdlhapkaa
open Go.RowKit

def setsOk (l : List Int) : Bool := l.all valB && decide (l.length ≤ 100)
set_option maxHeartbeats 800000 in
theorem l4Sets_any (v : Value) (l : List Int) (w : World) (hr : ReadI w v l) (hl : l.length ≤ 1048576) :
    Calls Try.prog 80 #[v] w fun e w' => e = .returned (.bool (setsOk l)) ∧ w = w' := by
  obtain ⟨a, cap, rfl, ha⟩ := hr
  have HA := Lib.hid ha
  have HV := Lib.hid (fun x => valid_any x w)
  clear ha
  go_enter Try.func80, Try.ntmps80
  go_wp2_with fail
  go_loop [3] (fun iv => ∃ k : Nat, k ≤ l.length ∧ iv = .int .i64 (k : Int) ∧ Hid ((l.take k).all valB = true)) (fun iv => l.length - (intOf iv).toNat)
  case atStart => exact ⟨0, by omega, rfl, Lib.hid rfl⟩
  case round =>
    obtain ⟨k, hk, rfl, hall⟩ := hrel
    by_cases hlt : k < l.length
    · obtain ⟨b, rfl, hb⟩ := HA.out k hlt
      have z0 : (0 : Int) ≤ (k : Int) := by omega
      have z1 : (k : Int) < (l.length : Int) := by omega
      have HOK := Lib.hid (fun h => all_snoc (p := valB) hlt hall.out h)
      have HNO := Lib.hid (fun h => all_not (p := valB) hlt h)
      obtain ⟨y, hy⟩ : ∃ y, y = l[k] := ⟨_, rfl⟩
      rw [← hy] at hb HOK HNO
      have HQ := Lib.hid (HV.out y)
      clear hy
      cases hv : valB y with
      | true =>
        rw [hv] at HQ
        have HX := Lib.hid (HOK.out hv)
        clear hv
        go_wp2_with fail
        refine HQ.out.mono ?_
        rintro e w' ⟨rfl, rfl⟩
        go_wp2_with fail
        go_round
        case rel => exact ⟨k + 1, by omega, by go_num, HX⟩
        case measure => simp [intOf]; omega
      | false =>
        rw [hv] at HQ
        have HX := Lib.hid (HNO.out hv)
        clear hv
        go_wp2_with fail
        refine HQ.out.mono ?_
        rintro e w' ⟨rfl, rfl⟩
        go_wp2_with fail
        go_ret
        exact ⟨ret_b (by unfold setsOk; rw [HX.out]; rfl), rfl⟩
    · obtain rfl : k = l.length := by omega
      have HX : Hid (l.all valB = true) := Lib.hid (by have := hall.out; rwa [List.take_length] at this)
      go_wp2_with fail
      go_ret
      exact ⟨ret_b (by unfold setsOk; rw [HX.out, Bool.true_and, decide_eq_decide]; omega), rfl⟩
/-- Whether x is kept against the first k elements. -/
def topK (l : List Int) (x : Int) : Nat → Bool
  | 0 => true
  | k + 1 => topK l x k && (l.getD k 0 == x || bits .and .i64 x (l.getD k 0) != x)
def mxTo (l : List Int) : Nat → List Int
  | 0 => []
  | i + 1 => if topK l (l.getD i 0) l.length = true then put4 (mxTo l i) (l.getD i 0) else mxTo l i
def maxS (l : List Int) : List Int := if setsOk l = true then mxTo l l.length else []
theorem mxTo_len (l : List Int) (i : Nat) : (mxTo l i).length ≤ i := by
  induction i with
  | zero => simp [mxTo]
  | succ i ih => have := put4_len (mxTo l i) (l.getD i 0); unfold mxTo; split <;> omega
set_option maxHeartbeats 3200000 in
theorem maximalSets_any (v : Value) (l : List Int) (w : World) (hr : ReadI w v l) (hl : l.length ≤ 1048576) :
    Calls Try.prog 62 #[v] w (RetI (maxS l) w) := by
  have HF := Lib.hid (fun w' (hb : Below w.heap.size w w') => l4Sets_any v l w' (hr.kept hb) hl)
  obtain ⟨a, cap, rfl, ha⟩ := hr
  have HA := Lib.hid ha
  clear ha
  have hmk : OwnI (w.alloc (.cells #[] 3)) w.heap.size (.slice (some ⟨w.heap.size, 0, none⟩) 0 0) [] := OwnI.made (World.ownsRow_made w #[] 0 (Nat.le_refl _) (by unfold maxLen; omega) rfl)
  have hb0 : Below w.heap.size w (w.alloc (.cells #[] 3)) := (Below.refl _ _).alloc (Nat.le_refl _) _
  cases hf : setsOk l with
  | false =>
    have HE : Hid (maxS l = []) := Lib.hid (by unfold maxS; rw [hf]; simp)
    rw [hf] at HF
    clear hf
    go_enter Try.func62, Try.ntmps62
    go_wp2_with fail
    refine wp_loop_rounds 1 ?_
    rw [rounds_succ]
    by_cases h0 : l.length = 0
    · obtain rfl := List.eq_nil_of_length_eq_zero h0
      clear h0
      go_wp2_with fail
      go_ret
      exact ⟨_, rfl, by rw [HE.out]; exact hmk, hb0⟩
    · have hd2 : 0 < l.length := by omega
      have hd : decide ((0 : Int) < (l.length : Int)) = true := decide_eq_true (by omega)
      clear h0
      go_wp2_with fail
      refine (HF.out _ hb0).mono ?_
      rintro e w' ⟨rfl, rfl⟩
      go_wp2_with fail
      go_ret
      exact ⟨_, rfl, by rw [HE.out]; exact hmk, hb0⟩
  | true =>
    have HE : Hid (maxS l = mxTo l l.length) := Lib.hid (by unfold maxS; rw [if_pos hf])
    have hl100 : l.length ≤ 100 := by unfold setsOk at hf; simp at hf; exact hf.2
    rw [hf] at HF
    clear hf
    go_enter Try.func62, Try.ntmps62
    go_wp2_with fail
    go_loopw [3, 4] (fun ov iv wr => ∃ i : Nat, i ≤ l.length ∧ iv = .int .i64 (i : Int) ∧ OwnI wr w.heap.size ov (mxTo l i) ∧ Below w.heap.size w wr) (fun _ iv _ => l.length - (intOf iv).toNat)
    case atStart => exact ⟨0, by omega, rfl, hmk, hb0⟩
    case round =>
      clear hmk hb0
      obtain ⟨i, hi, rfl, ho, hb⟩ := hrel
      by_cases hlt : i < l.length
      · have hd : decide ((i : Int) < (l.length : Int)) = true := decide_eq_true (by omega)
        have HS : Hid (mxTo l (i + 1) = if topK l (l.getD i 0) l.length = true then put4 (mxTo l i) (l.getD i 0) else mxTo l i) := Lib.hid rfl
        have htl := mxTo_len l i
        obtain ⟨xa, rfl, hxi⟩ := HA.out i hlt
        rw [get_getD l i hlt] at hxi
        obtain ⟨x, hx⟩ : ∃ x, x = l.getD i 0 := ⟨_, rfl⟩
        rw [← hx] at HS hxi
        obtain ⟨lc, hlc⟩ : ∃ lc, lc = mxTo l i := ⟨_, rfl⟩
        rw [← hlc] at HS ho htl
        have HXI := Lib.hid hxi
        have i0 : (0 : Int) ≤ (i : Int) := by omega
        have i1 : (i : Int) < (l.length : Int) := by omega
        clear hx hlc hxi
        go_wp2_with fail
        refine (HF.out _ hb).mono ?_
        rintro e w2 ⟨rfl, rfl⟩
        go_wp2_with fail
        obtain ⟨wi, rfl⟩ : ∃ wi : World, wi = wr := ⟨_, rfl⟩
        go_loopw [5, 6] (fun tv kv wr => ∃ k : Nat, k ≤ l.length ∧ kv = .int .i64 (k : Int) ∧ tv = .bool (topK l x k) ∧ Below wi.heap.size wi wr) (fun _ kv _ => l.length - (intOf kv).toNat)
        case atStart => exact ⟨0, by omega, rfl, rfl, Below.refl _ _⟩
        case round =>
          obtain ⟨k, hk, rfl, rfl, hbi⟩ := hrel
          have hbw := hb.trans (hbi.mono hb.size)
          have hcx := (hbw.cell (World.block_lt_of_cell? w _ HXI.out)).trans HXI.out
          by_cases hlk : k < l.length
          · obtain ⟨xb, hxb, hyk⟩ := HA.out k hlk
            obtain rfl := Option.some.inj hxb
            have HT2 : Hid (topK l x (k + 1) = (topK l x k && (l.getD k 0 == x || bits .and .i64 x (l.getD k 0) != x))) := Lib.hid rfl
            rw [get_getD l k hlk] at hyk
            obtain ⟨y, hy⟩ : ∃ y, y = l.getD k 0 := ⟨_, rfl⟩
            rw [← hy] at HT2 hyk
            have hcy := (hbw.cell (World.block_lt_of_cell? w _ hyk)).trans hyk
            have k0 : (0 : Int) ≤ (k : Int) := by omega
            have k1 : (k : Int) < (l.length : Int) := by omega
            clear hy hyk hxb
            cases ht : topK l x k with
            | false =>
              rw [ht] at HT2
              clear ht
              go_wp2_with fail
              go_quiet (fail)
              go_wp2_with fail
              go_roundw
              case rel => exact ⟨k + 1, by omega, by go_num, by rw [HT2.out]; rfl, below_drewN hbi _⟩
              case measure => simp [intOf]; omega
            | true =>
              rw [ht] at HT2
              clear ht
              by_cases he : y = x
              · subst he
                have HT3 : Hid (topK l y (k + 1) = true) := Lib.hid (by rw [HT2.out]; simp)
                clear HT2
                go_wp2_with fail
                go_quiet (fail)
                go_wp2_with fail
                go_roundw
                case rel => exact ⟨k + 1, by omega, by go_num, by rw [HT3.out], below_drewN hbi _⟩
                case measure => simp [intOf]; omega
              · have e0 : (y == x) = false := by simpa using he
                rw [e0, Bool.true_and, Bool.false_or] at HT2
                clear he
                go_wp2_with fail
                go_quiet (fail)
                go_wp2_with fail
                go_roundw
                case rel => exact ⟨k + 1, by omega, by go_num, by rw [HT2.out], below_drewN hbi _⟩
                case measure => simp [intOf]; omega
          · obtain rfl : k = l.length := by omega
            have ho3 := ho.kept hbi (fun k hk => (OwnI.lt ho k hk).2)
            have hs3 := hbw.size
            cases ht : topK l x l.length with
            | true =>
              rw [if_pos ht] at HS
              clear ht
              go_wp2_with fail
              refine (l4Put_any _ _ _ w.heap.size _ ho3 (by omega) (by omega)).mono ?_
              rintro e w4 ⟨v4, rfl, ho4, b4⟩
              have hb4 := hbw.trans (b4.mono hbw.size)
              go_wp2_with fail
              go_roundw
              case rel => exact ⟨i + 1, by omega, by go_num, by rw [HS.out]; exact ho4, hb4⟩
              case measure => simp [intOf]; omega
            | false =>
              rw [if_neg (by rw [ht]; simp)] at HS
              clear ht
              go_wp2_with fail
              go_roundw
              case rel => exact ⟨i + 1, by omega, by go_num, by rw [HS.out]; exact ho3, hbw⟩
              case measure => simp [intOf]; omega
      · obtain rfl : i = l.length := by omega
        have hd2 : ¬ l.length < l.length := by omega
        go_wp2_with fail
        go_ret
        exact ⟨_, rfl, by rw [HE.out]; exact ho, hb⟩
/-- Whether x is kept against the first k elements. -/
def lowK (l : List Int) (x : Int) : Nat → Bool
  | 0 => true
  | k + 1 => lowK l x k && (l.getD k 0 == x || bits .and .i64 x (l.getD k 0) != (l.getD k 0))
def mnTo (l : List Int) : Nat → List Int
  | 0 => []
  | i + 1 => if lowK l (l.getD i 0) l.length = true then put4 (mnTo l i) (l.getD i 0) else mnTo l i
def minS (l : List Int) : List Int := if setsOk l = true then mnTo l l.length else []
theorem mnTo_len (l : List Int) (i : Nat) : (mnTo l i).length ≤ i := by
  induction i with
  | zero => simp [mnTo]
  | succ i ih => have := put4_len (mnTo l i) (l.getD i 0); unfold mnTo; split <;> omega
set_option maxHeartbeats 3200000 in
theorem minimalSets_any (v : Value) (l : List Int) (w : World) (hr : ReadI w v l) (hl : l.length ≤ 1048576) :
    Calls Try.prog 39 #[v] w (RetI (minS l) w) := by
  have HF := Lib.hid (fun w' (hb : Below w.heap.size w w') => l4Sets_any v l w' (hr.kept hb) hl)
  obtain ⟨a, cap, rfl, ha⟩ := hr
  have HA := Lib.hid ha
  clear ha
  have hmk : OwnI (w.alloc (.cells #[] 3)) w.heap.size (.slice (some ⟨w.heap.size, 0, none⟩) 0 0) [] := OwnI.made (World.ownsRow_made w #[] 0 (Nat.le_refl _) (by unfold maxLen; omega) rfl)
  have hb0 : Below w.heap.size w (w.alloc (.cells #[] 3)) := (Below.refl _ _).alloc (Nat.le_refl _) _
  cases hf : setsOk l with
  | false =>
    have HE : Hid (minS l = []) := Lib.hid (by unfold minS; rw [hf]; simp)
    rw [hf] at HF
    clear hf
    go_enter Try.func39, Try.ntmps39
    go_wp2_with fail
    refine wp_loop_rounds 1 ?_
    rw [rounds_succ]
    by_cases h0 : l.length = 0
    · obtain rfl := List.eq_nil_of_length_eq_zero h0
      clear h0
      go_wp2_with fail
      go_ret
      exact ⟨_, rfl, by rw [HE.out]; exact hmk, hb0⟩
    · have hd2 : 0 < l.length := by omega
      have hd : decide ((0 : Int) < (l.length : Int)) = true := decide_eq_true (by omega)
      clear h0
      go_wp2_with fail
      refine (HF.out _ hb0).mono ?_
      rintro e w' ⟨rfl, rfl⟩
      go_wp2_with fail
      go_ret
      exact ⟨_, rfl, by rw [HE.out]; exact hmk, hb0⟩
  | true =>
    have HE : Hid (minS l = mnTo l l.length) := Lib.hid (by unfold minS; rw [if_pos hf])
    have hl100 : l.length ≤ 100 := by unfold setsOk at hf; simp at hf; exact hf.2
    rw [hf] at HF
    clear hf
    go_enter Try.func39, Try.ntmps39
    go_wp2_with fail
    go_loopw [3, 4] (fun ov iv wr => ∃ i : Nat, i ≤ l.length ∧ iv = .int .i64 (i : Int) ∧ OwnI wr w.heap.size ov (mnTo l i) ∧ Below w.heap.size w wr) (fun _ iv _ => l.length - (intOf iv).toNat)
    case atStart => exact ⟨0, by omega, rfl, hmk, hb0⟩
    case round =>
      clear hmk hb0
      obtain ⟨i, hi, rfl, ho, hb⟩ := hrel
      by_cases hlt : i < l.length
      · have hd : decide ((i : Int) < (l.length : Int)) = true := decide_eq_true (by omega)
        have HS : Hid (mnTo l (i + 1) = if lowK l (l.getD i 0) l.length = true then put4 (mnTo l i) (l.getD i 0) else mnTo l i) := Lib.hid rfl
        have htl := mnTo_len l i
        obtain ⟨xa, rfl, hxi⟩ := HA.out i hlt
        rw [get_getD l i hlt] at hxi
        obtain ⟨x, hx⟩ : ∃ x, x = l.getD i 0 := ⟨_, rfl⟩
        rw [← hx] at HS hxi
        obtain ⟨lc, hlc⟩ : ∃ lc, lc = mnTo l i := ⟨_, rfl⟩
        rw [← hlc] at HS ho htl
        have HXI := Lib.hid hxi
        have i0 : (0 : Int) ≤ (i : Int) := by omega
        have i1 : (i : Int) < (l.length : Int) := by omega
        clear hx hlc hxi
        go_wp2_with fail
        refine (HF.out _ hb).mono ?_
        rintro e w2 ⟨rfl, rfl⟩
        go_wp2_with fail
        obtain ⟨wi, rfl⟩ : ∃ wi : World, wi = wr := ⟨_, rfl⟩
        go_loopw [5, 6] (fun tv kv wr => ∃ k : Nat, k ≤ l.length ∧ kv = .int .i64 (k : Int) ∧ tv = .bool (lowK l x k) ∧ Below wi.heap.size wi wr) (fun _ kv _ => l.length - (intOf kv).toNat)
        case atStart => exact ⟨0, by omega, rfl, rfl, Below.refl _ _⟩
        case round =>
          obtain ⟨k, hk, rfl, rfl, hbi⟩ := hrel
          have hbw := hb.trans (hbi.mono hb.size)
          have hcx := (hbw.cell (World.block_lt_of_cell? w _ HXI.out)).trans HXI.out
          by_cases hlk : k < l.length
          · obtain ⟨xb, hxb, hyk⟩ := HA.out k hlk
            obtain rfl := Option.some.inj hxb
            have HT2 : Hid (lowK l x (k + 1) = (lowK l x k && (l.getD k 0 == x || bits .and .i64 x (l.getD k 0) != (l.getD k 0)))) := Lib.hid rfl
            rw [get_getD l k hlk] at hyk
            obtain ⟨y, hy⟩ : ∃ y, y = l.getD k 0 := ⟨_, rfl⟩
            rw [← hy] at HT2 hyk
            have hcy := (hbw.cell (World.block_lt_of_cell? w _ hyk)).trans hyk
            have k0 : (0 : Int) ≤ (k : Int) := by omega
            have k1 : (k : Int) < (l.length : Int) := by omega
            clear hy hyk hxb
            cases ht : lowK l x k with
            | false =>
              rw [ht] at HT2
              clear ht
              go_wp2_with fail
              go_quiet (fail)
              go_wp2_with fail
              go_roundw
              case rel => exact ⟨k + 1, by omega, by go_num, by rw [HT2.out]; rfl, below_drewN hbi _⟩
              case measure => simp [intOf]; omega
            | true =>
              rw [ht] at HT2
              clear ht
              by_cases he : y = x
              · subst he
                have HT3 : Hid (lowK l y (k + 1) = true) := Lib.hid (by rw [HT2.out]; simp)
                clear HT2
                go_wp2_with fail
                go_quiet (fail)
                go_wp2_with fail
                go_roundw
                case rel => exact ⟨k + 1, by omega, by go_num, by rw [HT3.out], below_drewN hbi _⟩
                case measure => simp [intOf]; omega
              · have e0 : (y == x) = false := by simpa using he
                rw [e0, Bool.true_and, Bool.false_or] at HT2
                clear he
                go_wp2_with fail
                go_quiet (fail)
                go_wp2_with fail
                go_roundw
                case rel => exact ⟨k + 1, by omega, by go_num, by rw [HT2.out], below_drewN hbi _⟩
                case measure => simp [intOf]; omega
          · obtain rfl : k = l.length := by omega
            have ho3 := ho.kept hbi (fun k hk => (OwnI.lt ho k hk).2)
            have hs3 := hbw.size
            cases ht : lowK l x l.length with
            | true =>
              rw [if_pos ht] at HS
              clear ht
              go_wp2_with fail
              refine (l4Put_any _ _ _ w.heap.size _ ho3 (by omega) (by omega)).mono ?_
              rintro e w4 ⟨v4, rfl, ho4, b4⟩
              have hb4 := hbw.trans (b4.mono hbw.size)
              go_wp2_with fail
              go_roundw
              case rel => exact ⟨i + 1, by omega, by go_num, by rw [HS.out]; exact ho4, hb4⟩
              case measure => simp [intOf]; omega
            | false =>
              rw [if_neg (by rw [ht]; simp)] at HS
              clear ht
              go_wp2_with fail
              go_roundw
              case rel => exact ⟨i + 1, by omega, by go_num, by rw [HS.out]; exact ho3, hbw⟩
              case measure => simp [intOf]; omega
      · obtain rfl : i = l.length := by omega
        have hd2 : ¬ l.length < l.length := by omega
        go_wp2_with fail
        go_ret
        exact ⟨_, rfl, by rw [HE.out]; exact ho, hb⟩
end Go.Proofs.Ytcgkfbjdlhapkaa
namespace Go.Proofs.Ytcgkfbjdlhapkaa
open Go.RowKit

/-- In order, no two equal. -/
def AscI (l : List Int) : Prop := l.Pairwise fun a b => a < b
theorem ascI_unique : ∀ (a b : List Int), AscI a → AscI b → (∀ x, x ∈ a ↔ x ∈ b) → a = b
  | [], [], _, _, _ => rfl
  | [], y :: bs, _, _, h => by have := (h y).2 (by simp); cases this
  | x :: s1, [], _, _, h => by have := (h x).1 (by simp); cases this
  | x :: s1, y :: bs, ha, hb, h => by
    unfold AscI at ha hb
    rw [List.pairwise_cons] at ha hb
    have hxy : x = y := by
      have h1 := (h x).1 (by simp)
      have h2 := (h y).2 (by simp)
      rw [List.mem_cons] at h1 h2
      rcases h1 with h1 | h1
      · exact h1
      · rcases h2 with h2 | h2
        · exact h2.symm
        · have e1 := ha.1 y h2
          have e2 := hb.1 x h1
          omega
    subst hxy
    have hx1 : ∀ z ∈ s1, z ≠ x := fun z hz e => by have := ha.1 z hz; omega
    have hx2 : ∀ z ∈ bs, z ≠ x := fun z hz e => by have := hb.1 z hz; omega
    rw [ascI_unique s1 bs ha.2 hb.2 fun z => ⟨fun hz => by
      have := (h z).1 (by simp [hz])
      rw [List.mem_cons] at this
      exact this.resolve_left (hx1 z hz), fun hz => by
      have := (h z).2 (by simp [hz])
      rw [List.mem_cons] at this
      exact this.resolve_left (hx2 z hz)⟩]
theorem ascI_getD {l : List Int} (h : AscI l) {i j : Nat} (hij : i < j) (hj : j < l.length) : l.getD i 0 < l.getD j 0 := by
  rw [← get_getD l i (by omega), ← get_getD l j hj]
  exact List.pairwise_iff_getElem.mp h i j (by omega) hj hij
theorem ascI_snoc {l : List Int} {x : Int} (h : AscI l) (hx : ∀ y ∈ l, y < x) : AscI (l ++ [x]) := by
  unfold AscI
  rw [List.pairwise_append]
  exact ⟨h, List.pairwise_singleton _ _, fun a ha b hb => by rw [List.mem_singleton] at hb; subst hb; exact hx a ha⟩
theorem mem_getD {l : List Int} {y : Int} : y ∈ l ↔ ∃ t, t < l.length ∧ y = l.getD t 0 := by
  constructor
  · intro h
    obtain ⟨t, ht, rfl⟩ := List.mem_iff_getElem.mp h
    exact ⟨t, ht, get_getD l t ht⟩
  · rintro ⟨t, ht, rfl⟩
    rw [← get_getD l t ht]; exact List.getElem_mem ht
theorem take_snocD (l : List Int) (k : Nat) (h : k < l.length) : l.take (k + 1) = l.take k ++ [l.getD k 0] := by
  rw [List.take_succ_eq_append_getElem h, get_getD l k h]
theorem putTo_mem (l : List Int) (x y : Int) : ∀ k, k ≤ l.length → (y ∈ (putTo l x k).2 ↔ y ∈ l.take k ∨ ((putTo l x k).1 = true ∧ y = x))
  | 0, _ => by simp [putTo]
  | k + 1, hk => by
    have ih := putTo_mem l x y k (by omega)
    rw [take_snocD l k (by omega)]
    unfold putTo
    split
    · rename_i h
      rw [h.1] at ih
      have ih' : y ∈ (putTo l x k).2 ↔ y ∈ l.take k := by rw [ih]; simp
      rw [List.mem_append, List.mem_append, List.mem_singleton, List.mem_singleton, List.mem_append, List.mem_singleton, ih']
      constructor
      · rintro ((h1 | h1) | h1)
        · exact Or.inl (Or.inl h1)
        · exact Or.inr ⟨rfl, h1⟩
        · exact Or.inl (Or.inr h1)
      · rintro ((h1 | h1) | ⟨-, h1⟩)
        · exact Or.inl (Or.inl h1)
        · exact Or.inr h1
        · exact Or.inl (Or.inr h1)
    · simp only [List.mem_append, List.mem_singleton, ih]
      constructor
      · rintro ((h1 | h1) | h1)
        · exact Or.inl (Or.inl h1)
        · exact Or.inr h1
        · exact Or.inl (Or.inr h1)
      · rintro ((h1 | h1) | h1)
        · exact Or.inl (Or.inl h1)
        · exact Or.inr h1
        · exact Or.inl (Or.inr h1)
theorem putTo_asc {l : List Int} (hl : AscI l) (x : Int) (hx : x ∉ l) : ∀ k, k ≤ l.length →
    AscI (putTo l x k).2 ∧ (∀ y ∈ (putTo l x k).2, ∀ i, k ≤ i → i < l.length → y < l.getD i 0) ∧ ((putTo l x k).1 = false → ∀ y ∈ (putTo l x k).2, y < x)
  | 0, _ => ⟨List.Pairwise.nil, fun y hy => by simp [putTo] at hy, fun _ y hy => by simp [putTo] at hy⟩
  | k + 1, hk => by
    obtain ⟨h1, h2, h3⟩ := putTo_asc hl x hx k (by omega)
    have hz : ∀ i, k + 1 ≤ i → i < l.length → l.getD k 0 < l.getD i 0 := fun i h h' => ascI_getD hl (by omega) h'
    have hne : l.getD k 0 ≠ x := fun e => hx (by rw [← e]; exact mem_getD.mpr ⟨k, by omega, rfl⟩)
    unfold putTo
    split
    · rename_i h
      refine ⟨ascI_snoc (ascI_snoc h1 (h3 h.1)) fun y hy => ?_, fun y hy i hi hil => ?_, fun e => by cases e⟩
      · rw [List.mem_append, List.mem_singleton] at hy
        rcases hy with hy | rfl
        · exact h2 y hy k (Nat.le_refl _) (by omega)
        · exact h.2
      · rw [List.mem_append, List.mem_append, List.mem_singleton, List.mem_singleton] at hy
        have := hz i hi hil
        rcases hy with (hy | rfl) | rfl
        · exact h2 y hy i (by omega) hil
        · omega
        · exact this
    · rename_i h
      refine ⟨ascI_snoc h1 fun y hy => h2 y hy k (Nat.le_refl _) (by omega), fun y hy i hi hil => ?_, fun e y hy => ?_⟩
      · rw [List.mem_append, List.mem_singleton] at hy
        rcases hy with hy | rfl
        · exact h2 y hy i (by omega) hil
        · exact hz i hi hil
      · rw [List.mem_append, List.mem_singleton] at hy
        rcases hy with hy | rfl
        · exact h3 e y hy
        · have : ¬ x < l.getD k 0 := fun e' => h ⟨e, e'⟩
          omega
theorem put4_mem (l : List Int) (x y : Int) : y ∈ put4 l x ↔ y = x ∨ y ∈ l := by
  have h := putTo_mem l x y l.length (Nat.le_refl _)
  rw [List.take_length] at h
  unfold put4
  split
  · rename_i hx
    constructor
    · exact Or.inr
    · rintro (rfl | h')
      · exact hx
      · exact h'
  · split
    · rename_i h1
      rw [h, h1]; simp
      constructor
      · rintro (h' | h')
        · exact Or.inr h'
        · exact Or.inl h'
      · rintro (h' | h')
        · exact Or.inr h'
        · exact Or.inl h'
    · rename_i h1
      rw [List.mem_append, h, List.mem_singleton]
      simp [h1]
      constructor
      · rintro (h' | h')
        · exact Or.inr h'
        · exact Or.inl h'
      · rintro (h' | h')
        · exact Or.inr h'
        · exact Or.inl h'
theorem put4_asc {l : List Int} (hl : AscI l) (x : Int) : AscI (put4 l x) := by
  unfold put4
  split
  · exact hl
  · rename_i hx
    obtain ⟨h1, -, h3⟩ := putTo_asc hl x hx l.length (Nat.le_refl _)
    split
    · exact h1
    · rename_i h
      exact ascI_snoc h1 (h3 (by simpa using h))
theorem topK_iff (l : List Int) (x : Int) : ∀ n, (topK l x n = true ↔ ∀ t, t < n → (l.getD t 0 == x || bits .and .i64 x (l.getD t 0) != x) = true)
  | 0 => by simp [topK]
  | n + 1 => by
    have ih := topK_iff l x n
    unfold topK
    rw [Bool.and_eq_true, ih]
    constructor
    · rintro ⟨h1, h2⟩ t ht
      by_cases e : t = n
      · subst e; exact h2
      · exact h1 t (by omega)
    · intro h
      exact ⟨fun t ht => h t (by omega), h n (by omega)⟩
theorem lowK_iff (l : List Int) (x : Int) : ∀ n, (lowK l x n = true ↔ ∀ t, t < n → (l.getD t 0 == x || bits .and .i64 x (l.getD t 0) != (l.getD t 0)) = true)
  | 0 => by simp [lowK]
  | n + 1 => by
    have ih := lowK_iff l x n
    unfold lowK
    rw [Bool.and_eq_true, ih]
    constructor
    · rintro ⟨h1, h2⟩ t ht
      by_cases e : t = n
      · subst e; exact h2
      · exact h1 t (by omega)
    · intro h
      exact ⟨fun t ht => h t (by omega), h n (by omega)⟩
theorem mxTo_mem (l : List Int) (y : Int) : ∀ i, (y ∈ mxTo l i ↔ ∃ t, t < i ∧ y = l.getD t 0 ∧ topK l y l.length = true)
  | 0 => by simp [mxTo]
  | i + 1 => by
    have ih := mxTo_mem l y i
    unfold mxTo
    split
    · rename_i h
      rw [put4_mem, ih]
      constructor
      · rintro (rfl | ⟨t, h1, h2, h3⟩)
        · exact ⟨i, by omega, rfl, h⟩
        · exact ⟨t, by omega, h2, h3⟩
      · rintro ⟨t, h1, h2, h3⟩
        by_cases e : t = i
        · subst e; exact Or.inl h2
        · exact Or.inr ⟨t, by omega, h2, h3⟩
    · rename_i h
      rw [ih]
      constructor
      · rintro ⟨t, h1, h2, h3⟩
        exact ⟨t, by omega, h2, h3⟩
      · rintro ⟨t, h1, h2, h3⟩
        by_cases e : t = i
        · subst e; rw [h2] at h3; exact (h h3).elim
        · exact ⟨t, by omega, h2, h3⟩
theorem mnTo_mem (l : List Int) (y : Int) : ∀ i, (y ∈ mnTo l i ↔ ∃ t, t < i ∧ y = l.getD t 0 ∧ lowK l y l.length = true)
  | 0 => by simp [mnTo]
  | i + 1 => by
    have ih := mnTo_mem l y i
    unfold mnTo
    split
    · rename_i h
      rw [put4_mem, ih]
      constructor
      · rintro (rfl | ⟨t, h1, h2, h3⟩)
        · exact ⟨i, by omega, rfl, h⟩
        · exact ⟨t, by omega, h2, h3⟩
      · rintro ⟨t, h1, h2, h3⟩
        by_cases e : t = i
        · subst e; exact Or.inl h2
        · exact Or.inr ⟨t, by omega, h2, h3⟩
    · rename_i h
      rw [ih]
      constructor
      · rintro ⟨t, h1, h2, h3⟩
        exact ⟨t, by omega, h2, h3⟩
      · rintro ⟨t, h1, h2, h3⟩
        by_cases e : t = i
        · subst e; rw [h2] at h3; exact (h h3).elim
        · exact ⟨t, by omega, h2, h3⟩
theorem mxTo_asc (l : List Int) : ∀ i, AscI (mxTo l i)
  | 0 => List.Pairwise.nil
  | i + 1 => by
    unfold mxTo
    split
    · exact put4_asc (mxTo_asc l i) _
    · exact mxTo_asc l i
theorem mnTo_asc (l : List Int) : ∀ i, AscI (mnTo l i)
  | 0 => List.Pairwise.nil
  | i + 1 => by
    unfold mnTo
    split
    · exact put4_asc (mnTo_asc l i) _
    · exact mnTo_asc l i
end Go.Proofs.Ytcgkfbjdlhapkaa
