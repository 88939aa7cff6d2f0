/- Texts of this claim, merged: Acc. Conditions: as stated. -/
import Derived.Test.YtnbjcelfdppkcadGreatXz20
namespace Go.Proofs.YtnbjcelfdppkcadGreat
open Go.RowKit

def accIn (g : Nat → Nat → Bool) (r : Nat) (ps : List Int) (q : List (Int × Int)) : Nat → List (Int × Int)
  | 0 => q
  | k + 1 => if (g (ps.getD k 0).toNat r && !cvd (accIn g r ps q k) (ps.getD k 0, (r : Int))) = true then accIn g r ps q k ++ [(ps.getD k 0, (r : Int))] else accIn g r ps q k
def accOut (g : Nat → Nat → Bool) (ps : List Int) : Nat → List (Int × Int)
  | 0 => []
  | r + 1 => accIn g r ps (accOut g ps r) ps.length
theorem accIn_len (g : Nat → Nat → Bool) (r : Nat) (ps : List Int) (q : List (Int × Int)) : ∀ k, (accIn g r ps q k).length ≤ q.length + k
  | 0 => Nat.le_refl _
  | k + 1 => by
    have ih := accIn_len g r ps q k
    unfold accIn
    split
    · rw [List.length_append, List.length_singleton]; omega
    · omega
theorem accOut_len (g : Nat → Nat → Bool) (ps : List Int) : ∀ r, (accOut g ps r).length ≤ r * ps.length
  | 0 => Nat.zero_le _
  | r + 1 => by
    have ih := accOut_len g ps r
    have h := accIn_len g r ps (accOut g ps r) ps.length
    rw [Nat.succ_mul]
    unfold accOut
    omega
theorem accIn_right (g : Nat → Nat → Bool) (r : Nat) (ps : List Int) (q : List (Int × Int)) : ∀ k, ∀ d ∈ accIn g r ps q k, d ∈ q ∨ d.2 = (r : Int)
  | 0, d, hd => .inl hd
  | k + 1, d, hd => by
    unfold accIn at hd
    split at hd
    · rcases List.mem_append.1 hd with h | h
      · exact accIn_right g r ps q k d h
      · rw [List.mem_singleton] at h
        subst h
        exact .inr rfl
    · exact accIn_right g r ps q k d hd
theorem accOut_right (g : Nat → Nat → Bool) (ps : List Int) : ∀ r, ∀ d ∈ accOut g ps r, ∃ R : Nat, R < r ∧ d.2 = (R : Int)
  | 0, d, hd => by cases hd
  | r + 1, d, hd => by
    rcases accIn_right g r ps (accOut g ps r) ps.length d hd with h | h
    · obtain ⟨R, hR, e⟩ := accOut_right g ps r d h
      exact ⟨R, by omega, e⟩
    · exact ⟨r, by omega, h⟩
/-- Among the sets that pass there is a least one within each. -/
theorem min_exA {P : Nat → Prop} : ∀ x, x < 32 → P x → ∃ y, y < 32 ∧ y ≤ x ∧ subN y x = true ∧ P y ∧ ∀ z, z < 32 → P z → subN z y = true → z = y := by
  intro x
  induction x using Nat.strongRecOn with
  | ind x ih =>
    intro hx hp
    by_cases h : ∃ z, z < 32 ∧ P z ∧ subN z x = true ∧ z ≠ x
    · obtain ⟨z, z1, z2, z3, z4⟩ := h
      have hle : z ≤ x := by
        unfold subN at z3
        rw [beq_iff_eq] at z3
        have := Nat.and_le_right (n := z) (m := x)
        omega
      obtain ⟨y, y1, y2, y3, y4⟩ := ih z (by omega) z1 z2
      exact ⟨y, y1, by omega, subN_trans y3 z3, y4⟩
    · exact ⟨x, hx, Nat.le_refl _, subN_refl _, hp, fun z z1 z2 z3 => Classical.byContradiction fun hne => h ⟨z, z1, z2, z3, hne⟩⟩
section
variable {C : Nat} {g : Nat → Nat → Bool}
def aF (g : Nat → Nat → Bool) (C r : Nat) : List Int := fltTo (fun S => g S.toNat r) (parts (C : Int)) (parts (C : Int)).length
theorem aF_mem (hC : C ≤ 5) (r z : Nat) : (z : Int) ∈ aF g C r ↔ z < 2 ^ C ∧ g z r = true := by
  unfold aF
  rw [fltTo_mem]
  constructor
  · rintro ⟨t, t1, t2, t3⟩
    obtain ⟨z', z1, z2⟩ := (parts_mem hC _).1 (mem_getD.2 ⟨t, t1, t3⟩)
    obtain rfl : z = z' := by omega
    rw [← t3] at t2
    exact ⟨z1, t2⟩
  · rintro ⟨z1, z2⟩
    obtain ⟨t, t1, t2⟩ := mem_getD.1 ((parts_mem hC (z : Int)).2 ⟨z, z1, rfl⟩)
    exact ⟨t, t1, by rw [← t2]; exact z2, t2⟩
theorem accIn_min (hC : C ≤ 5) {r : Nat} {q : List (Int × Int)} (hq : ∀ d ∈ q, d.2 ≠ (r : Int)) :
    ∀ k, k ≤ (parts (C : Int)).length → accIn g r (parts (C : Int)) q k = q ++ (((parts (C : Int)).take k).filter (fun S => decide (S ∈ minS (aF g C r)))).map (fun S => (S, (r : Int)))
  | 0, _ => by simp [accIn]
  | k + 1, hk => by
    have ih := accIn_min hC hq k (by omega)
    have h32 := two5 hC
    have hpl := parts_len32 hC
    have e := filter_next (fun S => decide (S ∈ minS (aF g C r))) (parts (C : Int)) 0 k (by omega)
    obtain ⟨f1, f2⟩ := flt_small hC (fun S => g S.toNat r)
    have f1 : setsOk (aF g C r) = true := f1
    have f2 : ∀ y ∈ aF g C r, ∃ x : Nat, x < 32 ∧ y = (x : Int) := f2
    obtain ⟨x, hx, ex⟩ := (parts_mem hC _).1 (mem_getD.2 ⟨k, by omega, rfl⟩ : (parts (C : Int)).getD k 0 ∈ parts (C : Int))
    have hcv : cvd (accIn g r (parts (C : Int)) q k) ((x : Int), (r : Int)) = true ↔ ∃ y : Nat, y < 2 ^ C ∧ y ≠ x ∧ subN y x = true ∧ (y : Int) ∈ minS (aF g C r) := by
      rw [cvd_iff, ih]
      constructor
      · rintro ⟨d, hd, d1, d2⟩
        rcases List.mem_append.1 hd with h | h
        · exact absurd d1 (hq d h)
        · rw [List.mem_map] at h
          obtain ⟨S, hS, rfl⟩ := h
          rw [List.mem_filter, decide_eq_true_iff] at hS
          obtain ⟨j, hj, ej⟩ := mem_getD.1 hS.1
          rw [List.length_take] at hj
          have hjk : j < k := by omega
          have ej2 : S = (parts (C : Int)).getD j 0 := by
            rw [ej, List.getD_eq_getElem?_getD, List.getD_eq_getElem?_getD, List.getElem?_take_of_lt hjk]
          obtain ⟨y, hy, ey⟩ := (parts_mem hC _).1 (mem_getD.2 ⟨j, by omega, rfl⟩ : (parts (C : Int)).getD j 0 ∈ parts (C : Int))
          rw [ey] at ej2
          subst ej2
          refine ⟨y, hy, fun hyx => ?_, ?_, hS.2⟩
          · subst hyx
            have o := parts_order ⟨C, by omega⟩ ⟨k, by omega⟩ ⟨j, by omega⟩ (show k < (parts (C : Int)).length by omega) (show j < (parts (C : Int)).length by omega)
            simp only at o
            rw [ex, ey] at o
            have := o (subN_refl _)
            omega
          · have d2' : bits .and .i64 (y : Int) (x : Int) = (y : Int) := d2
            rw [← and_sub y x (by omega) (by omega), beq_iff_eq]
            exact d2'
      · rintro ⟨y, hy, hne, hs, hmin⟩
        obtain ⟨j, hj, ej⟩ := mem_getD.1 ((parts_mem hC (y : Int)).2 ⟨y, hy, rfl⟩)
        have o := parts_order ⟨C, by omega⟩ ⟨j, by omega⟩ ⟨k, by omega⟩ hj (show k < (parts (C : Int)).length by omega)
        simp only at o
        rw [← ej, ex] at o
        have hjk := o hs
        have hjne : j ≠ k := fun e2 => by
          subst e2
          rw [← ej] at ex
          omega
        refine ⟨((y : Int), (r : Int)), List.mem_append.2 (.inr (List.mem_map.2 ⟨(y : Int), ?_, rfl⟩)), rfl, ?_⟩
        · rw [List.mem_filter]
          refine ⟨mem_getD.2 ⟨j, ?_, ?_⟩, decide_eq_true hmin⟩
          · rw [List.length_take]; omega
          · rw [List.getD_eq_getElem?_getD, List.getElem?_take_of_lt (show j < k by omega), ← List.getD_eq_getElem?_getD]
            exact ej
        · have := and_sub y x (by omega) (by omega)
          rw [hs, beq_iff_eq] at this
          exact this
    have hmm := minS_mem f1 f2 x
    have key : (g x r && !cvd (accIn g r (parts (C : Int)) q k) ((x : Int), (r : Int))) = decide ((x : Int) ∈ minS (aF g C r)) := by
      rw [Bool.eq_iff_iff, decide_eq_true_iff, hmm, aF_mem hC]
      cases hcb : cvd (accIn g r (parts (C : Int)) q k) ((x : Int), (r : Int)) with
      | true =>
        obtain ⟨y, y1, y2, y3, y4⟩ := hcv.1 hcb
        constructor
        · intro h
          simp at h
        · rintro ⟨-, h⟩
          exact absurd (h y ((minS_mem f1 f2 y).1 y4).1 y3) y2
      | false =>
        constructor
        · intro h
          simp only [Bool.not_false, Bool.and_true] at h
          refine ⟨⟨hx, h⟩, fun z hz hs => Classical.byContradiction fun hne => ?_⟩
          obtain ⟨z1, z2⟩ := (aF_mem hC r z).1 hz
          obtain ⟨y, y1, y2, y3, y4, y5⟩ := min_exA (P := fun z => (z : Int) ∈ aF g C r) z (by omega) hz
          have hyx : y ≠ x := fun e2 => by
            subst e2
            exact hne (sub_anti hs y3)
          have : cvd (accIn g r (parts (C : Int)) q k) ((x : Int), (r : Int)) = true :=
            hcv.2 ⟨y, ((aF_mem hC r y).1 y4).1, hyx, subN_trans y3 hs, (minS_mem f1 f2 y).2 ⟨y4, fun z' hz' hs' => y5 z' (by have := ((aF_mem hC r z').1 hz').1; omega) hz' hs'⟩⟩
          rw [hcb] at this
          cases this
        · rintro ⟨⟨-, h⟩, -⟩
          simp only [Bool.not_false, Bool.and_true]
          exact h
    have e3 : accIn g r (parts (C : Int)) q (k + 1) = if (g ((parts (C : Int)).getD k 0).toNat r && !cvd (accIn g r (parts (C : Int)) q k) ((parts (C : Int)).getD k 0, (r : Int))) = true then accIn g r (parts (C : Int)) q k ++ [((parts (C : Int)).getD k 0, (r : Int))] else accIn g r (parts (C : Int)) q k := rfl
    rw [e3, ex, show ((x : Int)).toNat = x from rfl, key]
    rw [ex] at e
    by_cases hm : (x : Int) ∈ minS (aF g C r)
    · rw [if_pos (decide_eq_true hm)] at e
      rw [if_pos (decide_eq_true hm), e, ih, List.map_append, ← List.append_assoc]; rfl
    · rw [if_neg (by simpa using hm)] at e
      rw [if_neg (by simpa using hm), e, ih]
theorem acc_min (hC : C ≤ 5) : ∀ r, r ≤ C → accOut g (parts (C : Int)) r = mdOut (fun S r => decide (S ∈ minS (aF g C r))) (parts (C : Int)) r
  | 0, _ => rfl
  | r + 1, hr => by
    have ih := acc_min hC r (by omega)
    have e : accOut g (parts (C : Int)) (r + 1) = accIn g r (parts (C : Int)) (accOut g (parts (C : Int)) r) (parts (C : Int)).length := rfl
    have hq : ∀ d ∈ accOut g (parts (C : Int)) r, d.2 ≠ (r : Int) := by
      intro d hd
      obtain ⟨R, hR, e⟩ := accOut_right g _ r d hd
      rw [e]
      omega
    rw [e, mdOut_succ, accIn_min hC hq _ (Nat.le_refl _), List.take_length, ih]
/-- What is taken one after the other is what no other one of the candidates covers. -/
theorem acc_unc (hC : C ≤ 5) (h : Int × Int → Bool) (hg : ∀ x r : Nat, x < 2 ^ C → r < C → g x r = (!bitB x r && h ((x : Int), (r : Int)))) : uncL ((candL C).filter h) = accOut g (parts (C : Int)) C := by
  rw [unc_low hC, acc_min hC C (Nat.le_refl _)]
  refine mdOut_same C fun S hS r hr => ?_
  have e : fltTo (fun S => !bitB S.toNat r && h (S, (r : Int))) (parts (C : Int)) (parts (C : Int)).length = aF g C r := by
    unfold aF
    have : ∀ n, n ≤ (parts (C : Int)).length → fltTo (fun S => !bitB S.toNat r && h (S, (r : Int))) (parts (C : Int)) n = fltTo (fun S => g S.toNat r) (parts (C : Int)) n := by
      intro n
      induction n with
      | zero => intro _; rfl
      | succ n ih =>
        intro hn
        obtain ⟨x, hx, ex⟩ := (parts_mem hC _).1 (mem_getD.2 ⟨n, by omega, rfl⟩ : (parts (C : Int)).getD n 0 ∈ parts (C : Int))
        unfold fltTo
        rw [ih (by omega), ex]
        have := hg x r hx hr
        rw [show ((x : Int)).toNat = x from rfl, this]
    exact this _ (Nat.le_refl _)
  rw [e]
end
end Go.Proofs.YtnbjcelfdppkcadGreat
