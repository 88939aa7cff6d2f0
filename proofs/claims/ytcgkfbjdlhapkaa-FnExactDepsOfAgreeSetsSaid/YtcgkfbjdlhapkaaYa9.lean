/- Texts of this claim, merged: CovA, ClA, PmC. Conditions: as stated. -/
import Derived.Test.YtcgkfbjdlhapkaaYa8
import Derived.Test.YtcgkfbjdlhapkaaYa7
namespace Go.Proofs.Ytcgkfbjdlhapkaa
open Go.RowKit

/-- a is part of b. -/
def subN (a b : Nat) : Bool := (a &&& b) == a
theorem subN_bit (a b : Fin 32) : subN a.val b.val = true ↔ ∀ j : Fin 5, bitB a.val j.val = true → bitB b.val j.val = true := by
  have h : ∀ a b : Fin 32, (subN a.val b.val = true ↔ ∀ j : Fin 5, bitB a.val j.val = true → bitB b.val j.val = true) := by decide +kernel
  exact h a b
theorem subN_refl (a : Nat) : subN a a = true := by unfold subN; simp
theorem subN_trans {a b c : Nat} (h1 : subN a b = true) (h2 : subN b c = true) : subN a c = true := by
  unfold subN at *
  rw [beq_iff_eq] at *
  rw [← h1, Nat.and_assoc, h2]
/-- Without one of its columns. -/
theorem drop_fin : ∀ (a : Fin 32) (j : Fin 5), bitB a.val j.val = true → 2 ^ j.val ≤ a.val ∧ subN (a.val - 2 ^ j.val) a.val = true ∧ bitB (a.val - 2 ^ j.val) j.val = false := by decide +kernel
/-- With one more. -/
theorem more_fin : ∀ (a : Fin 32) (j : Fin 5), bitB a.val j.val = false → a.val + 2 ^ j.val < 32 ∧ subN a.val (a.val + 2 ^ j.val) = true ∧ bitB (a.val + 2 ^ j.val) j.val = true ∧ ∀ i : Fin 5, i ≠ j → bitB (a.val + 2 ^ j.val) i.val = bitB a.val i.val := by decide +kernel
theorem below_fin : ∀ (a b : Fin 32), subN a.val b.val = true → a ≠ b → ∃ j : Fin 5, bitB b.val j.val = true ∧ bitB a.val j.val = false ∧ subN a.val (b.val - 2 ^ j.val) = true ∧ subN (a.val + 2 ^ j.val) b.val = true := by decide +kernel
theorem bit_lt : ∀ (C : Fin 6) (a : Fin 32) (j : Fin 5), a.val < 2 ^ C.val → bitB a.val j.val = true → j.val < C.val := by decide +kernel
theorem more_lt : ∀ (C : Fin 6) (a : Fin 32) (j : Fin 5), a.val < 2 ^ C.val → j.val < C.val → bitB a.val j.val = false → a.val + 2 ^ j.val < 2 ^ C.val := by decide +kernel

/-- Closed upwards among the sets below n. -/
def UpN (n : Nat) (f : Nat → Prop) : Prop := ∀ a b, a < n → b < n → subN a b = true → f a → f b
/-- It is in f, and without any of its columns it is not. -/
def LeastN (f : Nat → Prop) (y : Nat) : Prop := f y ∧ ∀ j, j < 5 → bitB y j = true → ¬ f (y - 2 ^ j)
theorem least_ex {f : Nat → Prop} : ∀ (x : Nat), x < 32 → f x → ∃ y, y < 32 ∧ y ≤ x ∧ subN y x = true ∧ LeastN f y := by
  intro x
  induction x using Nat.strongRecOn with
  | ind x ih =>
    intro hx hf
    by_cases h : ∃ j, j < 5 ∧ bitB x j = true ∧ f (x - 2 ^ j)
    · obtain ⟨j, hj, hb, hfj⟩ := h
      obtain ⟨d1, d2, -⟩ := drop_fin ⟨x, hx⟩ ⟨j, hj⟩ hb
      have hp : 0 < 2 ^ j := Nat.pow_pos (by decide)
      simp only at d1 d2
      obtain ⟨y, y1, y2, y3, y4⟩ := ih (x - 2 ^ j) (by omega) (by omega) hfj
      exact ⟨y, y1, by omega, subN_trans y3 d2, y4⟩
    · exact ⟨x, hx, Nat.le_refl _, subN_refl _, hf, fun j hj hb hfj => h ⟨j, hj, hb, hfj⟩⟩
/-- Among closed families: the least ones have no smaller one at all. -/
theorem least_iff {f : Nat → Prop} {n : Nat} (hn : n ≤ 32) (hu : UpN n f) {y : Nat} (hy : y < n) : LeastN f y ↔ f y ∧ ∀ z, z < n → f z → subN z y = true → z = y := by
  constructor
  · rintro ⟨h1, h2⟩
    refine ⟨h1, fun z hz hfz hs => Classical.byContradiction fun hne => ?_⟩
    obtain ⟨j, j1, -, j3, -⟩ := below_fin ⟨z, by omega⟩ ⟨y, by omega⟩ hs (fun e => hne (Fin.mk.inj e))
    exact h2 j.val j.isLt j1 (hu z _ hz (Nat.lt_of_le_of_lt (Nat.sub_le _ _) hy) j3 hfz)
  · rintro ⟨h1, h2⟩
    refine ⟨h1, fun j hj hb hf => ?_⟩
    obtain ⟨d1, d2, d3⟩ := drop_fin ⟨y, by omega⟩ ⟨j, hj⟩ hb
    have hp : 0 < 2 ^ j := Nat.pow_pos (by decide)
    simp only at d1 d2 d3
    have := h2 (y - 2 ^ j) (by omega) hf d2
    omega
/-- Outside of f, without column R, and with any other column more it is inside. -/
def MostN (C R : Nat) (f : Nat → Prop) (y : Nat) : Prop := ¬ f y ∧ bitB y R = false ∧ ∀ j, j < C → j ≠ R → bitB y j = false → f (y + 2 ^ j)
theorem most_ex {C R : Nat} (hC : C ≤ 5) {f : Nat → Prop} (hR : R < C) : ∀ (k x : Nat), 32 - x ≤ k → x < 2 ^ C → bitB x R = false → ¬ f x → ∃ y, y < 2 ^ C ∧ subN x y = true ∧ MostN C R f y := by
  intro k
  have h32 : 2 ^ C ≤ 32 := Nat.le_trans (Nat.pow_le_pow_right (by omega) hC) (by decide)
  induction k with
  | zero => intro x hk hx; omega
  | succ k ih =>
    intro x hk hx hr hf
    by_cases h : ∃ j, j < C ∧ j ≠ R ∧ bitB x j = false ∧ ¬ f (x + 2 ^ j)
    · obtain ⟨j, hj, hne, hb, hfj⟩ := h
      obtain ⟨d1, d2, d3, d4⟩ := more_fin ⟨x, by omega⟩ ⟨j, by omega⟩ hb
      have hl := more_lt ⟨C, by omega⟩ ⟨x, by omega⟩ ⟨j, by omega⟩ hx hj hb
      have hp : 0 < 2 ^ j := Nat.pow_pos (by decide)
      have d5 := d4 ⟨R, by omega⟩ (fun e => hne (Fin.mk.inj e).symm)
      simp only at d1 d2 d3 d5 hl
      obtain ⟨y, y1, y2, y3⟩ := ih (x + 2 ^ j) (by omega) hl (by rw [d5]; exact hr) hfj
      exact ⟨y, y1, subN_trans d2 y2, y3⟩
    · exact ⟨x, hx, subN_refl _, hf, hr, fun j hj hne hb => Classical.byContradiction fun hfj => h ⟨j, hj, hne, hb, hfj⟩⟩
theorem most_iff {C R : Nat} (hC : C ≤ 5) {f : Nat → Prop} (hu : UpN (2 ^ C) f) (hR : R < C) {y : Nat} (hy : y < 2 ^ C) : MostN C R f y ↔ ¬ f y ∧ bitB y R = false ∧ ∀ z, z < 2 ^ C → ¬ f z → bitB z R = false → subN y z = true → z = y := by
  have h32 : 2 ^ C ≤ 32 := Nat.le_trans (Nat.pow_le_pow_right (by omega) hC) (by decide)
  constructor
  · rintro ⟨h1, h2, h3⟩
    refine ⟨h1, h2, fun z hz hfz hr hs => Classical.byContradiction fun hne => ?_⟩
    obtain ⟨j, j1, j2, -, j4⟩ := below_fin ⟨y, by omega⟩ ⟨z, by omega⟩ hs (fun e => hne (Fin.mk.inj e).symm)
    have hjC := bit_lt ⟨C, by omega⟩ ⟨z, by omega⟩ j hz j1
    have hl := more_lt ⟨C, by omega⟩ ⟨y, by omega⟩ j hy hjC j2
    simp only at hjC hl j1 j2 j4
    have hjR : j.val ≠ R := fun e => by rw [e, hr] at j1; cases j1
    exact hfz (hu _ z hl hz j4 (h3 j.val hjC hjR j2))
  · rintro ⟨h1, h2, h3⟩
    refine ⟨h1, h2, fun j hj hne hb => Classical.byContradiction fun hf => ?_⟩
    obtain ⟨d1, d2, d3, d4⟩ := more_fin ⟨y, by omega⟩ ⟨j, by omega⟩ hb
    have hl := more_lt ⟨C, by omega⟩ ⟨y, by omega⟩ ⟨j, by omega⟩ hy hj hb
    have hp : 0 < 2 ^ j := Nat.pow_pos (by decide)
    have d5 := d4 ⟨R, by omega⟩ (fun e => hne (Fin.mk.inj e).symm)
    simp only at d2 d5 hl
    have := h3 _ hl hf (by rw [d5]; exact h2) d2
    omega
/-- A dependency that holds goes on holding with a greater left side. -/
theorem holds_up {c : Nat} {ll : List (List Int)} {m : Int} {R : Nat} (hc : c ≤ 5) : UpN (2 ^ c) (fun L => HoldsAll c ll m L R) := by
  intro a b ha hb hs h i k hik hk hag
  refine h i k hik hk ?_
  rw [agB_iff c ll m _ _ _ hc hb] at hag
  rw [agB_iff c ll m _ _ _ hc ha]
  have h32 : 2 ^ c ≤ 32 := Nat.le_trans (Nat.pow_le_pow_right (by omega) hc) (by decide)
  intro j hj hbj
  exact hag j hj ((subN_bit ⟨a, by omega⟩ ⟨b, by omega⟩).1 hs ⟨j, by omega⟩ hbj)
end Go.Proofs.Ytcgkfbjdlhapkaa
namespace Go.Proofs.Ytcgkfbjdlhapkaa
open Go.RowKit

/-- Dependencies that are valid, and not too many. -/
def arD (n : Int) (l : List (Int × Int)) : Bool := l.all (fun d => depB n d.1 d.2) && (decide (1 ≤ n ∧ n ≤ 5) && decide (l.length ≤ 20))
/-- x with R. -/
def orN (x R : Nat) : Nat := if bitB x R = true then x else x + 2 ^ R
theorem orN_or : ∀ (x : Fin 32) (R : Fin 5), bits .or .i64 ((x.val : Nat) : Int) (IntKind.i64.wrap (2 ^ R.val)) = ((orN x.val R.val : Nat) : Int) ∧ bits .or .i64 ((x.val : Nat) : Int) (2 ^ R.val) = ((orN x.val R.val : Nat) : Int) := by decide +kernel
theorem orN_fin : ∀ (x : Fin 32) (R : Fin 5), orN x.val R.val < 32 ∧ subN x.val (orN x.val R.val) = true ∧ bitB (orN x.val R.val) R.val = true := by decide +kernel
theorem orN_least : ∀ (x y : Fin 32) (R : Fin 5), subN x.val y.val = true → bitB y.val R.val = true → subN (orN x.val R.val) y.val = true := by decide +kernel
theorem orN_low : ∀ (C : Fin 6) (x : Fin 32) (R : Fin 5), x.val < 2 ^ C.val → R.val < C.val → orN x.val R.val < 2 ^ C.val := by decide +kernel
theorem sub_and : ∀ a b : Fin 32, (bits .and .i64 ((a.val : Nat) : Int) ((b.val : Nat) : Int) == ((a.val : Nat) : Int)) = subN a.val b.val := by decide +kernel
theorem subN_anti' {a b : Nat} (h1 : subN a b = true) (h2 : subN b a = true) : a = b := by
  unfold subN at *
  rw [beq_iff_eq] at *
  rw [← h1, Nat.and_comm]
  exact h2
theorem subN_lt {a b : Nat} (h : subN a b = true) (hb : b < 32) : a < 32 := by
  unfold subN at h
  rw [beq_iff_eq] at h
  have := Nat.and_le_right (n := a) (m := b)
  omega
/-- Dependencies of at most five columns. -/
def DepsN (C : Nat) (l : List (Int × Int)) : Prop := ∀ d ∈ l, ∃ L R : Nat, d = ((L : Int), (R : Int)) ∧ L < 2 ^ C ∧ R < C
theorem arD_n {n : Int} {l : List (Int × Int)} (h : arD n l = true) : ∃ C : Nat, n = (C : Int) ∧ 1 ≤ C ∧ C ≤ 5 ∧ l.length ≤ 20 ∧ DepsN C l := by
  unfold arD at h
  rw [Bool.and_eq_true, Bool.and_eq_true, decide_eq_true_iff, decide_eq_true_iff, List.all_eq_true] at h
  obtain ⟨h1, h2, h3⟩ := h
  obtain ⟨C, rfl⟩ : ∃ C : Nat, n = (C : Int) := ⟨n.toNat, by omega⟩
  refine ⟨C, rfl, by omega, by omega, h3, fun d hd => ?_⟩
  obtain ⟨-, k1, k2, k3⟩ := depB_iff.1 (h1 d hd)
  unfold isA at k1
  rw [decide_eq_true_iff, show ((C : Int)).toNat = C from rfl] at k1
  have hz : ((2 ^ C : Nat) : Int) = (2 : Int) ^ C := by rw [Int.natCast_pow]; rfl
  refine ⟨d.1.toNat, d.2.toNat, ?_, by omega, by omega⟩
  rw [show ((d.1.toNat : Nat) : Int) = d.1 by omega, show ((d.2.toNat : Nat) : Int) = d.2 by omega]
/-- One dependency applied. -/
def stN (x : Nat) (d : Int × Int) : Nat := if subN d.1.toNat x = true then orN x d.2.toNat else x
/-- The first i dependencies applied. -/
def rdTo (l : List (Int × Int)) (x : Nat) : Nat → Nat
  | 0 => x
  | i + 1 => stN (rdTo l x i) (l.getD i (0, 0))
/-- So many rounds. -/
def cloTo (l : List (Int × Int)) (x : Nat) : Nat → Nat
  | 0 => x
  | k + 1 => rdTo l (cloTo l x k) l.length
def clo (l : List (Int × Int)) (x : Nat) : Nat := cloTo l x 6
def ClosedN (l : List (Int × Int)) (x : Nat) : Prop := ∀ d ∈ l, subN d.1.toNat x = true → bitB x d.2.toNat = true
def clB (l : List (Int × Int)) (x : Nat) : Bool := l.all fun d => !subN d.1.toNat x || bitB x d.2.toNat
theorem clB_iff (l : List (Int × Int)) (x : Nat) : clB l x = true ↔ ClosedN l x := by
  unfold clB ClosedN
  rw [List.all_eq_true]
  refine forall_congr' fun d => forall_congr' fun _ => ?_
  cases subN d.1.toNat x <;> cases bitB x d.2.toNat <;> simp
theorem memD {l : List (Int × Int)} {i : Nat} (h : i < l.length) : l.getD i (0, 0) ∈ l := by
  rw [List.getD_eq_getElem?_getD, List.getElem?_eq_getElem h]; exact List.getElem_mem h
section
variable {C : Nat} {l : List (Int × Int)} (hC : C ≤ 5) (hl : DepsN C l)
include hC hl
theorem stN_facts {x : Nat} (hx : x < 32) {d : Int × Int} (hd : d ∈ l) : stN x d < 32 ∧ subN x (stN x d) = true ∧ (x < 2 ^ C → stN x d < 2 ^ C) ∧ (∀ y, y < 32 → subN x y = true → ClosedN l y → subN (stN x d) y = true) ∧ (stN x d = x → subN d.1.toNat x = true → bitB x d.2.toNat = true) := by
  obtain ⟨L, R, e, hL, hR⟩ := hl d hd
  have h1 := orN_fin ⟨x, hx⟩ ⟨R, by omega⟩
  have h2 := orN_low ⟨C, by omega⟩ ⟨x, hx⟩ ⟨R, by omega⟩
  simp only at h1 h2
  have eR : d.2.toNat = R := by rw [e]; rfl
  unfold stN
  rw [eR]
  split
  · rename_i hs
    refine ⟨h1.1, h1.2.1, fun h => h2 h hR, fun y hy hxy hc => ?_, fun he _ => ?_⟩
    · have hb := hc d hd (subN_trans hs hxy)
      rw [eR] at hb
      exact orN_least ⟨x, hx⟩ ⟨y, hy⟩ ⟨R, by omega⟩ hxy hb
    · rw [← he]; exact h1.2.2
  · rename_i hs
    exact ⟨hx, subN_refl _, fun h => h, fun _ _ h _ => h, fun _ h => absurd h hs⟩
theorem rdTo_facts {x : Nat} (hx : x < 32) : ∀ i, i ≤ l.length → rdTo l x i < 32 ∧ subN x (rdTo l x i) = true ∧ (x < 2 ^ C → rdTo l x i < 2 ^ C) ∧ ∀ y, y < 32 → subN x y = true → ClosedN l y → subN (rdTo l x i) y = true
  | 0, _ => ⟨hx, subN_refl _, fun h => h, fun _ _ h _ => h⟩
  | i + 1, hi => by
    obtain ⟨a1, a2, a3, a4⟩ := rdTo_facts hx i (by omega)
    obtain ⟨b1, b2, b3, b4, -⟩ := stN_facts hC hl a1 (memD (l := l) (i := i) (by omega))
    exact ⟨b1, subN_trans a2 b2, fun h => b3 (a3 h), fun y hy hxy hc => b4 y hy (a4 y hy hxy hc) hc⟩
theorem rdTo_up {x : Nat} (hx : x < 32) (i : Nat) : ∀ j, i ≤ j → j ≤ l.length → subN (rdTo l x i) (rdTo l x j) = true
  | 0, h, _ => by rw [show i = 0 by omega]; exact subN_refl _
  | j + 1, h, hj => by
    by_cases e : i = j + 1
    · rw [e]; exact subN_refl _
    · exact subN_trans (rdTo_up hx i j (by omega) (by omega)) (stN_facts hC hl (rdTo_facts hC hl hx j (by omega)).1 (memD (l := l) (i := j) (by omega))).2.1
theorem rd_still {x : Nat} (hx : x < 32) (h : rdTo l x l.length = x) : ClosedN l x := by
  intro d hd hs
  obtain ⟨i, hi, rfl⟩ := List.getElem_of_mem hd
  have e : ∀ j, j ≤ l.length → rdTo l x j = x := fun j hj => by
    have h1 := (rdTo_facts hC hl hx j hj).2.1
    have h2 := rdTo_up hC hl hx j l.length hj (Nat.le_refl _)
    rw [h] at h2
    exact subN_anti' h2 h1
  have h1 := e (i + 1) (by omega)
  have h0 := e i (by omega)
  have hg : l.getD i (0, 0) = l[i] := by rw [List.getD_eq_getElem?_getD, List.getElem?_eq_getElem hi]; rfl
  have h2 : stN x l[i] = x := by
    have h3 : rdTo l x (i + 1) = stN (rdTo l x i) (l.getD i (0, 0)) := rfl
    rw [h0, hg, h1] at h3
    exact h3.symm
  exact (stN_facts hC hl hx hd).2.2.2.2 h2 hs
theorem rd_id {x : Nat} (hx : x < 32) (h : ClosedN l x) (i : Nat) (hi : i ≤ l.length) : rdTo l x i = x := by
  obtain ⟨-, a2, -, a4⟩ := rdTo_facts hC hl hx i hi
  exact subN_anti' (a4 x hx (subN_refl _) h) a2
theorem cloTo_facts {x : Nat} (hx : x < 32) : ∀ k, cloTo l x k < 32 ∧ subN x (cloTo l x k) = true ∧ (x < 2 ^ C → cloTo l x k < 2 ^ C) ∧ ∀ y, y < 32 → subN x y = true → ClosedN l y → subN (cloTo l x k) y = true
  | 0 => ⟨hx, subN_refl _, fun h => h, fun _ _ h _ => h⟩
  | k + 1 => by
    obtain ⟨a1, a2, a3, a4⟩ := cloTo_facts hx k
    obtain ⟨b1, b2, b3, b4⟩ := rdTo_facts hC hl a1 l.length (Nat.le_refl _)
    exact ⟨b1, subN_trans a2 b2, fun h => b3 (a3 h), fun y hy hxy hc => b4 y hy (a4 y hy hxy hc) hc⟩
end
/-- How many columns. -/
def popN (x : Nat) : Nat := ((List.range 5).filter (bitB x)).length
theorem popN_le (x : Nat) : popN x ≤ 5 := Nat.le_trans (List.length_filter_le _ _) (by simp)
theorem popN_up : ∀ a b : Fin 32, subN a.val b.val = true → a ≠ b → popN a.val + 1 ≤ popN b.val := by decide +kernel
section
variable {C : Nat} {l : List (Int × Int)} (hC : C ≤ 5) (hl : DepsN C l)
include hC hl
theorem cloTo_grow {x : Nat} (hx : x < 32) : ∀ k, ClosedN l (cloTo l x k) ∨ k ≤ popN (cloTo l x k)
  | 0 => .inr (Nat.zero_le _)
  | k + 1 => by
    obtain ⟨a1, -⟩ := cloTo_facts hC hl hx k
    obtain ⟨b1, b2, -⟩ := rdTo_facts hC hl a1 l.length (Nat.le_refl _)
    have e : cloTo l x (k + 1) = rdTo l (cloTo l x k) l.length := rfl
    rw [e]
    by_cases h : rdTo l (cloTo l x k) l.length = cloTo l x k
    · rw [h]; exact .inl (rd_still hC hl a1 h)
    · rcases cloTo_grow hx k with hc | hc
      · exact absurd (rd_id hC hl a1 hc l.length (Nat.le_refl _)) h
      · have := popN_up ⟨cloTo l x k, a1⟩ ⟨_, b1⟩ b2 (fun e => h (congrArg Fin.val e).symm)
        exact .inr (by simp only at this; omega)
/-- The closure: the least closed set above x. -/
theorem clo_spec {x : Nat} (hx : x < 32) : clo l x < 32 ∧ subN x (clo l x) = true ∧ (x < 2 ^ C → clo l x < 2 ^ C) ∧ ClosedN l (clo l x) ∧ ∀ y, y < 32 → subN x y = true → ClosedN l y → subN (clo l x) y = true := by
  obtain ⟨a1, a2, a3, a4⟩ := cloTo_facts hC hl hx 6
  refine ⟨a1, a2, a3, ?_, a4⟩
  rcases cloTo_grow hC hl hx 6 with h | h
  · exact h
  · have := popN_le (cloTo l x 6)
    omega
/-- Whatever is closed, above x, and below every closed set above x, is the closure. -/
theorem clo_unique {x y : Nat} (hx : x < 32) (hy : y < 32) (h1 : subN x y = true) (h2 : ClosedN l y) (h3 : ∀ z, z < 32 → subN x z = true → ClosedN l z → subN y z = true) : y = clo l x := by
  obtain ⟨a1, a2, -, a3, a4⟩ := clo_spec hC hl hx
  exact subN_anti' (h3 _ a1 a2 a3) (a4 y hy h1 h2)
theorem clo_id {x : Nat} (hx : x < 32) : clo l x = x ↔ ClosedN l x := by
  constructor
  · intro h
    have := (clo_spec hC hl hx).2.2.2.1
    rwa [h] at this
  · intro h
    exact (clo_unique hC hl hx hx (subN_refl _) h fun z _ hz _ => hz).symm
theorem clo_cl {x : Nat} (hx : x < 32) : (clo l x == x) = clB l x := by
  rw [Bool.eq_iff_iff, beq_iff_eq, clB_iff, clo_id hC hl hx]
end
end Go.Proofs.Ytcgkfbjdlhapkaa
namespace Go.Proofs.Ytcgkfbjdlhapkaa

section
variable {c : Nat} {ll : List (List Int)} {m : Int} {S T L R : Nat}
/-- What agrees in S agrees in T. -/
def Fin2 (c : Nat) (ll : List (List Int)) (m : Int) (S T : Nat) : Prop := ∀ i k, i < k → k < ll.length → agB c ll m (S : Int) i k = true → agB c ll m (T : Int) i k = true
theorem Fin2.ne (hc : c ≤ 5) (hS : S < 2 ^ c) (hT : T < 2 ^ c) (h : Fin2 c ll m S T) {i k : Nat} (hi : i < ll.length) (hk : k < ll.length) (hne : i ≠ k) (ha : agB c ll m (S : Int) i k = true) : agB c ll m (T : Int) i k = true := by
  rcases Nat.lt_trichotomy i k with hlt | he | hlt
  · exact h i k hlt hk ha
  · exact (hne he).elim
  · exact agB_symm hc hT (h k i hlt hi (agB_symm hc hS ha))
theorem clsC_first {a : Nat} (ha : a < ll.length) : (clsC c ll m (S : Int) a).getD 0 0 = (a : Int) := by
  have hz := (clsC_mem c ll m (S : Int) a ha _).2 (.inl rfl)
  cases hq : clsC c ll m (S : Int) a with
  | nil => rw [hq] at hz; cases hz
  | cons x t =>
    have hx := (clsC_mem c ll m (S : Int) a ha x).1 (by rw [hq]; simp)
    have hp := clsC_asc (c := c) (ll := ll) (m := m) a (S : Int)
    rw [hq, List.pairwise_cons] at hp
    rw [hq] at hz
    rcases List.mem_cons.1 hz with hz | hz
    · rw [hz]; rfl
    · have := hp.1 _ hz
      rcases hx with hx | ⟨k, k1, -, -, hx⟩ <;> omega
theorem parL_finer (hc : c ≤ 5) (hS : S < 2 ^ c) (hT : T < 2 ^ c) (h40 : ll.length ≤ 40) : finB (parL c ll m S) (parL c ll m T) = true ↔ Fin2 c ll m S T := by
  unfold finB
  rw [List.all_eq_true]
  constructor
  · intro h i k hik hk ha
    obtain ⟨h1, h0⟩ := (clsI_same hc hS h40 (by omega) hk (by omega)).2 ha
    have hge := clsI_ge (parL c ll m S) (i : Int)
    have hpp := parL_part (m := m) hc hS h40
    have hi := (clsI_part hpp (x := (i : Int)) (a := (clsI (parL c ll m S) (i : Int)).toNat) (by omega)).2 (by omega)
    have hk' := (clsI_part hpp (x := (k : Int)) (a := (clsI (parL c ll m S) (i : Int)).toNat) (by omega)).2 (by omega)
    have hr := h ((parL c ll m S).getD (clsI (parL c ll m S) (i : Int)).toNat []) (by rw [List.getD_eq_getElem?_getD, List.getElem?_eq_getElem (by omega)]; exact List.getElem_mem _)
    unfold finR at hr
    rw [Bool.and_eq_true, List.all_eq_true] at hr
    have g1 := of_decide_eq_true (hr.2 _ hi)
    have g2 := of_decide_eq_true (hr.2 _ hk')
    exact (clsI_same hc hT h40 (by omega) hk (by omega)).1 ⟨g1.2.trans g2.2.symm, g1.1⟩
  · intro h r hr
    obtain ⟨j, hj, rfl⟩ := List.mem_iff_getElem.1 hr
    obtain ⟨e, hm⟩ := parL_get hj
    rw [List.getD_eq_getElem?_getD, List.getElem?_eq_getElem hj] at e
    simp only [Option.getD_some] at e
    rw [e]
    obtain ⟨h1, h2, h3⟩ := reps_mem.1 hm
    obtain ⟨k, k1, k2, k3⟩ := (clsC_two h1).1 h3
    have hT1 := h _ k k1 k2 k3
    have h0 := (clsI_in hc hT h40 h1).2 ⟨k, k2, by omega, hT1⟩
    unfold finR
    rw [Bool.and_eq_true, List.all_eq_true, clsC_first h1]
    refine ⟨?_, fun x hx => ?_⟩
    · cases hq : parL c ll m T with
      | nil => rw [hq] at h0; simp [clsI] at h0
      | cons a t => rfl
    · obtain ⟨y, y1, rfl, y3⟩ := (rep_mem hc hS hm).1 hx
      refine decide_eq_true ?_
      by_cases hya : (reps c ll m S).getD j 0 = y
      · rw [← hya]; exact ⟨h0, rfl⟩
      · have := (clsI_same hc hT h40 h1 y1 hya).2 (h.ne hc hS hT h1 y1 hya y3)
        omega
/-! ### The error: the rows that have an equal one before them -/
theorem sum_map_add {α : Type} (l : List α) (f g : α → Nat) : (l.map fun x => f x + g x).sum = (l.map f).sum + (l.map g).sum := by
  induction l with
  | nil => rfl
  | cons x t ih => simp only [List.map_cons, List.sum_cons, ih]; omega
theorem sum_map_zero {α : Type} (l : List α) : (l.map fun _ => 0).sum = 0 := by
  induction l with
  | nil => rfl
  | cons x t ih => simp only [List.map_cons, List.sum_cons, ih]
theorem sum_swap {α β : Type} (l : List α) (k : List β) (f : α → β → Nat) : (l.map fun x => (k.map fun y => f x y).sum).sum = (k.map fun y => (l.map fun x => f x y).sum).sum := by
  induction l with
  | nil => simp only [List.map_nil, List.sum_nil, sum_map_zero]
  | cons x t ih => simp only [List.map_cons, List.sum_cons, ih, sum_map_add]
theorem sum_ind {α : Type} (l : List α) (p : α → Bool) : (l.map fun x => if p x = true then 1 else 0).sum = (l.filter p).length := by
  induction l with
  | nil => rfl
  | cons x t ih =>
    simp only [List.map_cons, List.sum_cons, ih]
    cases h : p x with
    | true => rw [if_pos rfl, List.filter_cons, if_pos h, List.length_cons]; omega
    | false => rw [if_neg (by simp), List.filter_cons, if_neg (by rw [h]; simp)]; omega
/-- The rows behind a that agree with it. -/
def later (c : Nat) (ll : List (List Int)) (m : Int) (S a : Nat) : List Nat := (List.range ll.length).filter fun k => decide (a < k) && agB c ll m (S : Int) a k
theorem clsC_len1 {a : Nat} (ha : a < ll.length) : (clsC c ll m (S : Int) a).length = 1 + (later c ll m S a).length := by
  have h : clsC c ll m (S : Int) a = (a : Int) :: (later c ll m S a).map fun (k : Nat) => (k : Int) := by
    refine ascH_unique (r := fun x y => x < y) (fun x => by omega) (fun x y z => by omega) _ _ (clsC_asc _ _) ?_ fun x => ?_
    · rw [List.pairwise_cons]
      refine ⟨fun x hx => ?_, ?_⟩
      · obtain ⟨k, hk, rfl⟩ := List.mem_map.1 hx
        unfold later at hk
        rw [List.mem_filter, Bool.and_eq_true, decide_eq_true_eq] at hk
        omega
      · rw [List.pairwise_map]
        unfold later
        exact (List.pairwise_lt_range.filter _).imp fun {x y} h => by omega
    · rw [clsC_mem c ll m _ a ha, List.mem_cons, List.mem_map]
      unfold later
      constructor
      · rintro (h | ⟨k, h1, h2, h3, h4⟩)
        · exact .inl h
        · exact .inr ⟨k, by rw [List.mem_filter, List.mem_range, Bool.and_eq_true, decide_eq_true_eq]; exact ⟨h2, h1, h3⟩, h4.symm⟩
      · rintro (h | ⟨k, hk, rfl⟩)
        · exact .inl h
        · rw [List.mem_filter, List.mem_range, Bool.and_eq_true, decide_eq_true_eq] at hk
          exact .inr ⟨k, hk.2.1, hk.1, hk.2.2, rfl⟩
  rw [h, List.length_cons, List.length_map]; omega
theorem errTo_sum (p : List (List Int)) : ∀ k, k ≤ p.length → errTo p k = ((((p.take k).map fun r => r.length - 1).sum : Nat) : Int)
  | 0, _ => rfl
  | k + 1, hk => by
    rw [take_succ_getD p [] k (by omega), List.map_append, List.sum_append]
    unfold errTo
    rw [errTo_sum p k (by omega)]
    simp only [List.map_cons, List.map_nil, List.sum_cons, List.sum_nil]
    omega
/-- The rows that have an equal one before them. -/
def nonreps (c : Nat) (ll : List (List Int)) (m : Int) (S : Nat) : List Nat := (List.range ll.length).filter fun k => !repB c ll m (S : Int) k
theorem filter_one (n : Nat) (p : Nat → Bool) (a : Nat) (ha : a < n) (h : ∀ k, k < n → (p k = true ↔ k = a)) : ((List.range n).filter p).length = 1 := by
  have : (List.range n).filter p = [a] := by
    refine ascH_unique (r := fun x y : Nat => x < y) (fun x => by omega) (fun x y z => by omega) _ _ (List.pairwise_lt_range.filter _) (by simp) fun x => ?_
    rw [List.mem_filter, List.mem_range, List.mem_singleton]
    constructor
    · rintro ⟨h1, h2⟩; exact (h x h1).1 h2
    · rintro rfl; exact ⟨ha, (h x ha).2 rfl⟩
  rw [this]; rfl
theorem parL_error (hc : c ≤ 5) (hS : S < 2 ^ c) : errTo (parL c ll m S) (parL c ll m S).length = (((nonreps c ll m S).length : Nat) : Int) := by
  rw [errTo_sum _ _ (Nat.le_refl _), List.take_length]
  congr 1
  -- each class counts the rows behind its first one
  have h1 : ((parL c ll m S).map fun r => r.length - 1).sum = ((reps c ll m S).map fun a => (later c ll m S a).length).sum := by
    rw [parL_map, List.map_map]
    congr 1
    refine List.map_congr_left fun a ha => ?_
    obtain ⟨g1, -, -⟩ := reps_mem.1 ha
    show (clsC c ll m (S : Int) a).length - 1 = _
    rw [clsC_len1 g1]; omega
  -- classes of one row count nothing
  have h2 : ∀ l : List Nat, (∀ a ∈ l, a < ll.length) → ((l.filter fun a => repB c ll m (S : Int) a && decide (1 < (clsC c ll m (S : Int) a).length)).map fun a => (later c ll m S a).length).sum = (l.map fun a => ((List.range ll.length).map fun k => if (repB c ll m (S : Int) a && (decide (a < k) && agB c ll m (S : Int) a k)) = true then 1 else 0).sum).sum := by
    intro l
    induction l with
    | nil => intro _; rfl
    | cons a t ih =>
      intro hl
      have ha := hl a (by simp)
      have iht := ih fun b hb => hl b (by simp [hb])
      rw [List.map_cons, List.sum_cons, ← iht, sum_ind, List.filter_cons]
      cases hr : repB c ll m (S : Int) a with
      | false =>
        rw [if_neg (by simp)]
        have : ((List.range ll.length).filter fun k => (false && (decide (a < k) && agB c ll m (S : Int) a k))) = [] := by simp
        rw [this]; simp
      | true =>
        have e : ((List.range ll.length).filter fun k => (true && (decide (a < k) && agB c ll m (S : Int) a k))) = later c ll m S a := by unfold later; simp
        rw [e, Bool.true_and]
        by_cases hlen : 1 < (clsC c ll m (S : Int) a).length
        · rw [if_pos (decide_eq_true hlen), List.map_cons, List.sum_cons]
        · rw [if_neg (by rw [decide_eq_true_eq]; exact hlen)]
          rw [clsC_len1 ha] at hlen
          have : (later c ll m S a).length = 0 := by omega
          rw [this]; omega
  rw [h1]
  unfold reps
  rw [h2 _ (fun a ha => List.mem_range.1 ha), sum_swap]
  unfold nonreps
  rw [← sum_ind]
  congr 1
  refine List.map_congr_left fun k hk => ?_
  have hkl := List.mem_range.1 hk
  rw [sum_ind]
  cases hr : repB c ll m (S : Int) k with
  | true =>
    rw [if_neg (by simp), List.length_eq_zero_iff, List.filter_eq_nil_iff]
    intro a ha h
    rw [Bool.and_eq_true, Bool.and_eq_true, decide_eq_true_eq] at h
    unfold repB at hr
    rw [Bool.not_eq_true', List.any_eq_false] at hr
    exact hr a (List.mem_range.2 h.2.1) h.2.2
  | false =>
    rw [if_pos (by simp)]
    unfold repB at hr
    rw [Bool.not_eq_false', List.any_eq_true] at hr
    obtain ⟨b, hb, hbk⟩ := hr
    obtain ⟨a, g1, g2, g3⟩ := rep_least hc hS k (b + 1) b (by omega) (List.mem_range.1 hb) hbk
    refine filter_one _ _ a (by omega) fun x hx => ?_
    rw [Bool.and_eq_true, Bool.and_eq_true, decide_eq_true_eq]
    constructor
    · rintro ⟨x1, x2, x3⟩
      have hxa := agB_trans hc hS x3 (agB_symm hc hS g3)
      rcases Nat.lt_trichotomy x a with hlt | he | hlt
      · unfold repB at g2
        rw [Bool.not_eq_true', List.any_eq_false] at g2
        exact (g2 x (List.mem_range.2 hlt) hxa).elim
      · exact he
      · unfold repB at x1
        rw [Bool.not_eq_true', List.any_eq_false] at x1
        exact (x1 a (List.mem_range.2 hlt) (agB_symm hc hS hxa)).elim
    · rintro rfl; exact ⟨g2, g1, g3⟩
theorem filter_same {n : Nat} {p q : Nat → Bool} (h : ∀ k, k < n → q k = true → p k = true) (hl : ((List.range n).filter p).length = ((List.range n).filter q).length) : ∀ k, k < n → p k = true → q k = true := by
  have hs : ((List.range n).filter q).Sublist ((List.range n).filter p) := by
    have e : (List.range n).filter q = ((List.range n).filter p).filter q := by
      rw [List.filter_filter]
      refine List.filter_congr fun k hk => ?_
      have := h k (List.mem_range.1 hk)
      cases hq : q k with
      | false => rfl
      | true => rw [this hq]; rfl
    rw [e]; exact List.filter_sublist
  have he := hs.eq_of_length hl.symm
  intro k hk hp
  have : k ∈ (List.range n).filter q := by rw [he, List.mem_filter, List.mem_range]; exact ⟨hk, hp⟩
  exact (List.mem_filter.1 this).2
/-- A dependency holds just if the error of its left side is that of both sides. -/
theorem holds_error (hc : c ≤ 5) (hL : L < 2 ^ c) (hR : R < c) : errTo (parL c ll m L) (parL c ll m L).length = errTo (parL c ll m (L ||| 2 ^ R)) (parL c ll m (L ||| 2 ^ R)).length ↔ HoldsAll c ll m L R := by
  have hO : (L ||| 2 ^ R) < 2 ^ c := or_lt ⟨c, by omega⟩ ⟨L, lt32 hc hL⟩ ⟨R, by omega⟩ hL hR
  rw [parL_error hc hL, parL_error hc hO]
  have hsub : ∀ k, k < ll.length → (!repB c ll m ((L ||| 2 ^ R : Nat) : Int) k) = true → (!repB c ll m (L : Int) k) = true := by
    intro k hk h
    unfold repB at h ⊢
    rw [Bool.not_not, List.any_eq_true] at h ⊢
    obtain ⟨b, hb, hbk⟩ := h
    exact ⟨b, hb, ((agB_or hc hL hR b k).1 hbk).1⟩
  constructor
  · intro h
    have hl : ((List.range ll.length).filter fun k => !repB c ll m (L : Int) k).length = ((List.range ll.length).filter fun k => !repB c ll m ((L ||| 2 ^ R : Nat) : Int) k).length := by
      unfold nonreps at h; omega
    have hall := filter_same hsub hl
    -- from a first row on, all rows of its class agree in both
    have key : ∀ a, repB c ll m (L : Int) a = true → ∀ n x, x < n → a < x → x < ll.length → agB c ll m (L : Int) a x = true → agB c ll m ((L ||| 2 ^ R : Nat) : Int) a x = true := by
      intro a hrep n
      induction n with
      | zero => intro x hx; omega
      | succ n ih =>
        intro x hxn hax hx hagr
        have hnr : (!repB c ll m (L : Int) x) = true := by
          unfold repB
          rw [Bool.not_not, List.any_eq_true]
          exact ⟨a, List.mem_range.2 hax, hagr⟩
        have hno := hall x hx hnr
        unfold repB at hno
        rw [Bool.not_not, List.any_eq_true] at hno
        obtain ⟨b, hb, hbx⟩ := hno
        have hb' := List.mem_range.1 hb
        have hbL := ((agB_or hc hL hR b x).1 hbx).1
        have hab := agB_trans hc hL hagr (agB_symm hc hL hbL)
        rcases Nat.lt_trichotomy b a with hlt | rfl | hlt
        · unfold repB at hrep
          rw [Bool.not_eq_true', List.any_eq_false] at hrep
          exact (hrep b (List.mem_range.2 hlt) (agB_symm hc hL hab)).elim
        · exact hbx
        · exact agB_trans hc hO (ih b (by omega) hlt (by omega) hab) hbx
    intro i k hik hk hagr
    have hO2 : agB c ll m ((L ||| 2 ^ R : Nat) : Int) i k = true := by
      cases hr : repB c ll m (L : Int) i with
      | true => exact key i hr (k + 1) k (by omega) hik hk hagr
      | false =>
        unfold repB at hr
        rw [Bool.not_eq_false', List.any_eq_true] at hr
        obtain ⟨b, hb, hbi⟩ := hr
        obtain ⟨a, g1, g2, g3⟩ := rep_least hc hL i (b + 1) b (by omega) (List.mem_range.1 hb) hbi
        have h1 := key a g2 (i + 1) i (by omega) g1 (by omega) g3
        have h2 := key a g2 (k + 1) k (by omega) (by omega) hk (agB_trans hc hL g3 hagr)
        exact agB_trans hc hO (agB_symm hc hO h1) h2
    exact ((agB_or hc hL hR i k).1 hO2).2
  · intro h
    congr 1
    unfold nonreps
    congr 1
    refine List.filter_congr fun k hk => ?_
    have hkl := List.mem_range.1 hk
    congr 1
    unfold repB
    congr 1
    rw [Bool.eq_iff_iff, List.any_eq_true, List.any_eq_true]
    constructor
    · rintro ⟨b, hb, hbk⟩
      exact ⟨b, hb, (agB_or hc hL hR b k).2 ⟨hbk, h b k (List.mem_range.1 hb) hkl hbk⟩⟩
    · rintro ⟨b, hb, hbk⟩
      exact ⟨b, hb, ((agB_or hc hL hR b k).1 hbk).1⟩
theorem or_finer (hc : c ≤ 5) (hL : L < 2 ^ c) (hR : R < c) : Fin2 c ll m (L ||| 2 ^ R) L := fun i k _ _ h => ((agB_or hc hL hR i k).1 h).1
end
end Go.Proofs.Ytcgkfbjdlhapkaa
