/- The order of rows, and lists of different rows in order: plain facts. Conditions: s1 stated. -/
import Derived.Test.YtkaalgbcdcbgoaaKit
namespace Go.Proofs.Ytkaalgbcdcbgoaa

/-- By the first value that differs; the shorter one first. -/
def lessR : List Int → List Int → Bool
  | [], [] => false
  | [], _ :: _ => true
  | _ :: _, [] => false
  | a :: s1, b :: bs => if a = b then lessR s1 bs else decide (a < b)
theorem lessR_irrefl (a : List Int) : lessR a a = false := by
  induction a with
  | nil => rfl
  | cons x t ih => simp [lessR, ih]
theorem lessR_trans : ∀ (a b c : List Int), lessR a b = true → lessR b c = true → lessR a c = true
  | [], b, c, h1, h2 => by
    cases c with
    | nil => cases b <;> simp [lessR] at h1 h2
    | cons => rfl
  | x :: s1, [], c, h1, _ => by simp [lessR] at h1
  | x :: s1, y :: bs, [], _, h2 => by simp [lessR] at h2
  | x :: s1, y :: bs, z :: cs, h1, h2 => by
    unfold lessR at *
    by_cases hxy : x = y
    · subst hxy
      rw [if_pos rfl] at h1
      by_cases hxz : x = z
      · subst hxz; rw [if_pos rfl] at *; exact lessR_trans s1 bs cs h1 h2
      · rw [if_neg hxz] at *; exact h2
    · rw [if_neg hxy] at h1
      by_cases hyz : y = z
      · subst hyz; rw [if_neg hxy]; exact h1
      · rw [if_neg hyz] at h2
        simp only [decide_eq_true_eq] at h1 h2
        rw [if_neg (by omega)]
        simp only [decide_eq_true_eq]; omega
theorem lessR_total : ∀ (a b : List Int), lessR a b = false → lessR b a = false → a = b
  | [], [], _, _ => rfl
  | [], _ :: _, h, _ => by simp [lessR] at h
  | _ :: _, [], _, h => by simp [lessR] at h
  | x :: s1, y :: bs, h1, h2 => by
    unfold lessR at h1 h2
    by_cases hxy : x = y
    · subst hxy
      rw [if_pos rfl] at h1 h2
      rw [lessR_total s1 bs h1 h2]
    · rw [if_neg hxy] at h1
      rw [if_neg (fun e => hxy e.symm)] at h2
      simp only [decide_eq_false_iff_not] at h1 h2
      omega
theorem lessR_asymm {a b : List Int} (h : lessR a b = true) : lessR b a = false := by
  cases hb : lessR b a with
  | false => rfl
  | true => have := lessR_trans a b a h hb; rw [lessR_irrefl] at this; cases this
/-- In order, no two equal. -/
def Asc (l : List (List Int)) : Prop := l.Pairwise fun a b => lessR a b = true
theorem asc_unique : ∀ (a b : List (List Int)), Asc a → Asc b → (∀ x, x ∈ a ↔ x ∈ b) → a = b
  | [], [], _, _, _ => rfl
  | [], y :: bs, _, _, h => by have := (h y).2 (by simp); cases this
  | x :: s1, [], _, _, h => by have := (h x).1 (by simp); cases this
  | x :: s1, y :: bs, ha, hb, h => by
    unfold Asc at ha hb
    rw [List.pairwise_cons] at ha hb
    have hxy : x = y := by
      have h1 := (h x).1 (by simp)
      have h2 := (h y).2 (by simp)
      rw [List.mem_cons] at h1 h2
      rcases h1 with h1 | h1
      · exact h1
      · rcases h2 with h2 | h2
        · exact h2.symm
        · have e1 := ha.1 y h2
          have e2 := hb.1 x h1
          rw [lessR_asymm e1] at e2; cases e2
    subst hxy
    have hx1 : ∀ z ∈ s1, z ≠ x := fun z hz e => by have := ha.1 z hz; rw [e, lessR_irrefl] at this; cases this
    have hx2 : ∀ z ∈ bs, z ≠ x := fun z hz e => by have := hb.1 z hz; rw [e, lessR_irrefl] at this; cases this
    rw [asc_unique s1 bs ha.2 hb.2 fun z => ⟨fun hz => by
      have := (h z).1 (by simp [hz])
      rw [List.mem_cons] at this
      exact this.resolve_left (hx1 z hz), fun hz => by
      have := (h z).2 (by simp [hz])
      rw [List.mem_cons] at this
      exact this.resolve_left (hx2 z hz)⟩]
/-- The place of a row in a list in order. -/
def insR (x : List Int) : List (List Int) → List (List Int)
  | [] => [x]
  | y :: t => if lessR x y = true then x :: y :: t else if lessR y x = true then y :: insR x t else y :: t
theorem insR_mem (x z : List Int) (l : List (List Int)) : z ∈ insR x l ↔ z = x ∨ z ∈ l := by
  induction l with
  | nil => simp [insR]
  | cons y t ih =>
    unfold insR
    by_cases h1 : lessR x y = true
    · rw [if_pos h1]; simp
    · rw [if_neg h1]
      by_cases h2 : lessR y x = true
      · rw [if_pos h2, List.mem_cons, ih, List.mem_cons]
        constructor
        · rintro (h | h | h)
          · exact .inr (.inl h)
          · exact .inl h
          · exact .inr (.inr h)
        · rintro (h | h | h)
          · exact .inr (.inl h)
          · exact .inl h
          · exact .inr (.inr h)
      · rw [if_neg h2]
        have e : x = y := lessR_total x y (by simpa using h1) (by simpa using h2)
        subst e; simp
theorem insR_asc (x : List Int) (l : List (List Int)) (h : Asc l) : Asc (insR x l) := by
  induction l with
  | nil => exact List.pairwise_singleton _ _
  | cons y t ih =>
    unfold Asc at h
    rw [List.pairwise_cons] at h
    unfold insR
    by_cases h1 : lessR x y = true
    · rw [if_pos h1]
      unfold Asc
      rw [List.pairwise_cons, List.pairwise_cons]
      refine ⟨fun z hz => ?_, h⟩
      rw [List.mem_cons] at hz
      rcases hz with rfl | hz
      · exact h1
      · exact lessR_trans _ _ _ h1 (h.1 z hz)
    · rw [if_neg h1]
      by_cases h2 : lessR y x = true
      · rw [if_pos h2]
        unfold Asc
        rw [List.pairwise_cons]
        refine ⟨fun z hz => ?_, ih h.2⟩
        rw [insR_mem] at hz
        rcases hz with rfl | hz
        · exact h2
        · exact h.1 z hz
      · rw [if_neg h2]
        unfold Asc
        rw [List.pairwise_cons]; exact h
/-- The different rows, in order. -/
def onceL (l : List (List Int)) : List (List Int) := l.foldr insR []
theorem onceL_mem (l : List (List Int)) (z : List Int) : z ∈ onceL l ↔ z ∈ l := by
  induction l with
  | nil => simp [onceL]
  | cons x t ih => unfold onceL at *; rw [List.foldr_cons, insR_mem, ih, List.mem_cons]
theorem onceL_asc (l : List (List Int)) : Asc (onceL l) := by
  induction l with
  | nil => exact List.Pairwise.nil
  | cons x t ih => unfold onceL at *; rw [List.foldr_cons]; exact insR_asc _ _ ih
theorem onceL_eq {l m : List (List Int)} (h1 : Asc m) (h2 : ∀ z, z ∈ m ↔ z ∈ l) : m = onceL l :=
  asc_unique m (onceL l) h1 (onceL_asc l) fun z => by rw [h2, onceL_mem]
theorem insR_len (x : List Int) (l : List (List Int)) : (insR x l).length ≤ l.length + 1 := by
  induction l with
  | nil => simp [insR]
  | cons y t ih =>
    unfold insR
    split
    · simp
    · split
      · simp; exact ih
      · simp
theorem onceL_len (l : List (List Int)) : (onceL l).length ≤ l.length := by
  induction l with
  | nil => simp [onceL]
  | cons x t ih => unfold onceL at *; rw [List.foldr_cons, List.length_cons]; have := insR_len x (t.foldr insR []); omega
theorem onceL_rows {l : List (List Int)} {n : Nat} (h : ∀ r ∈ l, r.length = n) : ∀ r ∈ onceL l, r.length = n := fun r hr => h r ((onceL_mem l r).1 hr)

/-! ### Two lists in order, s1 one: rows beside their values -/
def mergeP : List (Value × List Int) → List (Value × List Int) → List (Value × List Int)
  | [], bs => bs
  | a :: s1, [] => a :: s1
  | a :: s1, b :: bs => if lessR a.2 b.2 = true then a :: mergeP s1 (b :: bs) else if lessR b.2 a.2 = true then b :: mergeP (a :: s1) bs else mergeP (a :: s1) bs
termination_by la lb => la.length + lb.length
theorem mergeP_nil_left (bs : List (Value × List Int)) : mergeP [] bs = bs := by unfold mergeP; rfl
theorem mergeP_nil_right (s1 : List (Value × List Int)) : mergeP s1 [] = s1 := by cases s1 <;> (unfold mergeP; rfl)
theorem mergeP_cons (a b : Value × List Int) (s1 bs : List (Value × List Int)) : mergeP (a :: s1) (b :: bs) = if lessR a.2 b.2 = true then a :: mergeP s1 (b :: bs) else if lessR b.2 a.2 = true then b :: mergeP (a :: s1) bs else mergeP (a :: s1) bs := by
  rw [mergeP]
theorem mergeP_mem : ∀ (s1 bs : List (Value × List Int)) (z : Value × List Int), z ∈ mergeP s1 bs → z ∈ s1 ∨ z ∈ bs
  | [], bs, z, h => by rw [mergeP_nil_left] at h; exact .inr h
  | a :: s1, [], z, h => by rw [mergeP_nil_right] at h; exact .inl h
  | a :: s1, b :: bs, z, h => by
    rw [mergeP_cons] at h
    split at h
    · rw [List.mem_cons] at h
      rcases h with rfl | h
      · exact .inl (by simp)
      · exact (mergeP_mem s1 (b :: bs) z h).imp (fun h => by simp [h]) id
    · split at h
      · rw [List.mem_cons] at h
        rcases h with rfl | h
        · exact .inr (by simp)
        · exact (mergeP_mem (a :: s1) bs z h).imp id (fun h => by simp [h])
      · exact (mergeP_mem (a :: s1) bs z h).imp id (fun h => by simp [h])
termination_by s1 bs => s1.length + bs.length
def AscP (l : List (Value × List Int)) : Prop := l.Pairwise fun a b => lessR a.2 b.2 = true
theorem mergeP_asc : ∀ (s1 bs : List (Value × List Int)), AscP s1 → AscP bs → AscP (mergeP s1 bs)
  | [], bs, _, hb => by rw [mergeP_nil_left]; exact hb
  | a :: s1, [], ha, _ => by rw [mergeP_nil_right]; exact ha
  | a :: s1, b :: bs, ha, hb => by
    have ha' := ha
    have hb' := hb
    unfold AscP at ha' hb'
    rw [List.pairwise_cons] at ha' hb'
    rw [mergeP_cons]
    by_cases h1 : lessR a.2 b.2 = true
    · rw [if_pos h1]
      unfold AscP
      rw [List.pairwise_cons]
      refine ⟨fun z hz => ?_, mergeP_asc s1 (b :: bs) ha'.2 hb⟩
      rcases mergeP_mem s1 (b :: bs) z hz with h | h
      · exact ha'.1 z h
      · rw [List.mem_cons] at h
        rcases h with rfl | h
        · exact h1
        · exact lessR_trans _ _ _ h1 (hb'.1 z h)
    · rw [if_neg h1]
      by_cases h2 : lessR b.2 a.2 = true
      · rw [if_pos h2]
        unfold AscP
        rw [List.pairwise_cons]
        refine ⟨fun z hz => ?_, mergeP_asc (a :: s1) bs ha hb'.2⟩
        rcases mergeP_mem (a :: s1) bs z hz with h | h
        · rw [List.mem_cons] at h
          rcases h with rfl | h
          · exact h2
          · exact lessR_trans _ _ _ h2 (ha'.1 z h)
        · exact hb'.1 z h
      · rw [if_neg h2]; exact mergeP_asc (a :: s1) bs ha hb'.2
termination_by s1 bs => s1.length + bs.length
theorem mergeP_rows : ∀ (s1 bs : List (Value × List Int)) (x : List Int), (x ∈ (mergeP s1 bs).map (·.2)) ↔ x ∈ s1.map (·.2) ∨ x ∈ bs.map (·.2)
  | [], bs, x => by rw [mergeP_nil_left]; simp
  | a :: s1, [], x => by rw [mergeP_nil_right]; simp
  | a :: s1, b :: bs, x => by
    rw [mergeP_cons]
    by_cases h1 : lessR a.2 b.2 = true
    · rw [if_pos h1]
      have ih := mergeP_rows s1 (b :: bs) x
      simp only [List.map_cons, List.mem_cons] at ih ⊢
      rw [ih]
      constructor
      · rintro (h | h | h | h)
        · exact .inl (.inl h)
        · exact .inl (.inr h)
        · exact .inr (.inl h)
        · exact .inr (.inr h)
      · rintro ((h | h) | h | h)
        · exact .inl h
        · exact .inr (.inl h)
        · exact .inr (.inr (.inl h))
        · exact .inr (.inr (.inr h))
    · rw [if_neg h1]
      have ih := mergeP_rows (a :: s1) bs x
      by_cases h2 : lessR b.2 a.2 = true
      · rw [if_pos h2]
        simp only [List.map_cons, List.mem_cons] at ih ⊢
        rw [ih]
        constructor
        · rintro (h | (h | h) | h)
          · exact .inr (.inl h)
          · exact .inl (.inl h)
          · exact .inl (.inr h)
          · exact .inr (.inr h)
        · rintro ((h | h) | h | h)
          · exact .inr (.inl (.inl h))
          · exact .inr (.inl (.inr h))
          · exact .inl h
          · exact .inr (.inr h)
      · have e := lessR_total _ _ (by simpa using h1) (by simpa using h2)
        rw [if_neg h2]
        simp only [List.map_cons, List.mem_cons] at ih ⊢
        rw [ih]
        constructor
        · rintro ((h | h) | h)
          · exact .inl (.inl h)
          · exact .inl (.inr h)
          · exact .inr (.inr h)
        · rintro ((h | h) | h | h)
          · exact .inl (.inl h)
          · exact .inl (.inr h)
          · exact .inl (.inl (by rw [h, e]))
          · exact .inr h
termination_by s1 bs => s1.length + bs.length
theorem mergeP_pair {R : Value × List Int → Value × List Int → Prop} : ∀ (s1 bs : List (Value × List Int)), s1.Pairwise R → bs.Pairwise R → (∀ x ∈ s1, ∀ y ∈ bs, R x y ∧ R y x) → (mergeP s1 bs).Pairwise R
  | [], bs, _, hb, _ => by rw [mergeP_nil_left]; exact hb
  | a :: s1, [], ha, _, _ => by rw [mergeP_nil_right]; exact ha
  | a :: s1, b :: bs, ha, hb, hab => by
    have ha' := ha
    have hb' := hb
    rw [List.pairwise_cons] at ha' hb'
    rw [mergeP_cons]
    split
    · rw [List.pairwise_cons]
      refine ⟨fun z hz => ?_, mergeP_pair s1 (b :: bs) ha'.2 hb (fun x hx y hy => hab x (by simp [hx]) y hy)⟩
      rcases mergeP_mem s1 (b :: bs) z hz with h | h
      · exact ha'.1 z h
      · exact (hab a (by simp) z h).1
    · split
      · rw [List.pairwise_cons]
        refine ⟨fun z hz => ?_, mergeP_pair (a :: s1) bs ha hb'.2 (fun x hx y hy => hab x hx y (by simp [hy]))⟩
        rcases mergeP_mem (a :: s1) bs z hz with h | h
        · exact (hab z h b (by simp)).2
        · exact hb'.1 z h
      · exact mergeP_pair (a :: s1) bs ha hb'.2 (fun x hx y hy => hab x hx y (by simp [hy]))
termination_by s1 bs => s1.length + bs.length
theorem mergeP_len : ∀ (s1 bs : List (Value × List Int)), (mergeP s1 bs).length ≤ s1.length + bs.length
  | [], bs => by rw [mergeP_nil_left]; simp
  | a :: s1, [] => by rw [mergeP_nil_right]; simp
  | a :: s1, b :: bs => by
    rw [mergeP_cons]
    split
    · have := mergeP_len s1 (b :: bs); simp at *; omega
    · split
      · have := mergeP_len (a :: s1) bs; simp at *; omega
      · have := mergeP_len (a :: s1) bs; simp at *; omega
termination_by s1 bs => s1.length + bs.length
end Go.Proofs.Ytkaalgbcdcbgoaa
