/- Texts of this claim, merged: RowOrd, CmpI, RecO, SidL, SidV, SidF, Told. Conditions: as stated. -/
import Derived.Test.YtnbjcelfdppkcaaGreatTc1
import Derived.Test.YtnbjcelfdppkcaaGreatTc23
import Derived.Test.YtnbjcelfdppkcaaGreatTc3
import Derived.Deep.RegionHeld3
import Derived.RegionTactic
import Derived.Test.YtnbjcelfdppkcaaGreatTc27
import Derived.Test.YtnbjcelfdppkcaaGreatTc18
import Derived.Deep.RegionLaw
import Derived.Test.YtnbjcelfdppkcaaGreatTc12
namespace Go.Proofs.YtnbjcelfdppkcaaGreat

/-- By the first value that differs; the shorter one first. -/
def lessR : List Int → List Int → Bool
  | [], [] => false
  | [], _ :: _ => true
  | _ :: _, [] => false
  | a :: s1, b :: bs => if a = b then lessR s1 bs else decide (a < b)
theorem lessR_irrefl (a : List Int) : lessR a a = false := by
  induction a with
  | nil => rfl
  | cons x t ih => simp [lessR, ih]
theorem lessR_trans : ∀ (a b c : List Int), lessR a b = true → lessR b c = true → lessR a c = true
  | [], b, c, h1, h2 => by
    cases c with
    | nil => cases b <;> simp [lessR] at h1 h2
    | cons => rfl
  | x :: s1, [], c, h1, _ => by simp [lessR] at h1
  | x :: s1, y :: bs, [], _, h2 => by simp [lessR] at h2
  | x :: s1, y :: bs, z :: cs, h1, h2 => by
    unfold lessR at *
    by_cases hxy : x = y
    · subst hxy
      rw [if_pos rfl] at h1
      by_cases hxz : x = z
      · subst hxz; rw [if_pos rfl] at *; exact lessR_trans s1 bs cs h1 h2
      · rw [if_neg hxz] at *; exact h2
    · rw [if_neg hxy] at h1
      by_cases hyz : y = z
      · subst hyz; rw [if_neg hxy]; exact h1
      · rw [if_neg hyz] at h2
        simp only [decide_eq_true_eq] at h1 h2
        rw [if_neg (by omega)]
        simp only [decide_eq_true_eq]; omega
theorem lessR_total : ∀ (a b : List Int), lessR a b = false → lessR b a = false → a = b
  | [], [], _, _ => rfl
  | [], _ :: _, h, _ => by simp [lessR] at h
  | _ :: _, [], _, h => by simp [lessR] at h
  | x :: s1, y :: bs, h1, h2 => by
    unfold lessR at h1 h2
    by_cases hxy : x = y
    · subst hxy
      rw [if_pos rfl] at h1 h2
      rw [lessR_total s1 bs h1 h2]
    · rw [if_neg hxy] at h1
      rw [if_neg (fun e => hxy e.symm)] at h2
      simp only [decide_eq_false_iff_not] at h1 h2
      omega
theorem lessR_asymm {a b : List Int} (h : lessR a b = true) : lessR b a = false := by
  cases hb : lessR b a with
  | false => rfl
  | true => have := lessR_trans a b a h hb; rw [lessR_irrefl] at this; cases this
/-- In order, no two equal. -/
def Asc (l : List (List Int)) : Prop := l.Pairwise fun a b => lessR a b = true
theorem asc_unique : ∀ (a b : List (List Int)), Asc a → Asc b → (∀ x, x ∈ a ↔ x ∈ b) → a = b
  | [], [], _, _, _ => rfl
  | [], y :: bs, _, _, h => by have := (h y).2 (by simp); cases this
  | x :: s1, [], _, _, h => by have := (h x).1 (by simp); cases this
  | x :: s1, y :: bs, ha, hb, h => by
    unfold Asc at ha hb
    rw [List.pairwise_cons] at ha hb
    have hxy : x = y := by
      have h1 := (h x).1 (by simp)
      have h2 := (h y).2 (by simp)
      rw [List.mem_cons] at h1 h2
      rcases h1 with h1 | h1
      · exact h1
      · rcases h2 with h2 | h2
        · exact h2.symm
        · have e1 := ha.1 y h2
          have e2 := hb.1 x h1
          rw [lessR_asymm e1] at e2; cases e2
    subst hxy
    have hx1 : ∀ z ∈ s1, z ≠ x := fun z hz e => by have := ha.1 z hz; rw [e, lessR_irrefl] at this; cases this
    have hx2 : ∀ z ∈ bs, z ≠ x := fun z hz e => by have := hb.1 z hz; rw [e, lessR_irrefl] at this; cases this
    rw [asc_unique s1 bs ha.2 hb.2 fun z => ⟨fun hz => by
      have := (h z).1 (by simp [hz])
      rw [List.mem_cons] at this
      exact this.resolve_left (hx1 z hz), fun hz => by
      have := (h z).2 (by simp [hz])
      rw [List.mem_cons] at this
      exact this.resolve_left (hx2 z hz)⟩]
/-- The place of a row in a list in order. -/
def insR (x : List Int) : List (List Int) → List (List Int)
  | [] => [x]
  | y :: t => if lessR x y = true then x :: y :: t else if lessR y x = true then y :: insR x t else y :: t
theorem insR_mem (x z : List Int) (l : List (List Int)) : z ∈ insR x l ↔ z = x ∨ z ∈ l := by
  induction l with
  | nil => simp [insR]
  | cons y t ih =>
    unfold insR
    by_cases h1 : lessR x y = true
    · rw [if_pos h1]; simp
    · rw [if_neg h1]
      by_cases h2 : lessR y x = true
      · rw [if_pos h2, List.mem_cons, ih, List.mem_cons]
        constructor
        · rintro (h | h | h)
          · exact .inr (.inl h)
          · exact .inl h
          · exact .inr (.inr h)
        · rintro (h | h | h)
          · exact .inr (.inl h)
          · exact .inl h
          · exact .inr (.inr h)
      · rw [if_neg h2]
        have e : x = y := lessR_total x y (by simpa using h1) (by simpa using h2)
        subst e; simp
theorem insR_asc (x : List Int) (l : List (List Int)) (h : Asc l) : Asc (insR x l) := by
  induction l with
  | nil => exact List.pairwise_singleton _ _
  | cons y t ih =>
    unfold Asc at h
    rw [List.pairwise_cons] at h
    unfold insR
    by_cases h1 : lessR x y = true
    · rw [if_pos h1]
      unfold Asc
      rw [List.pairwise_cons, List.pairwise_cons]
      refine ⟨fun z hz => ?_, h⟩
      rw [List.mem_cons] at hz
      rcases hz with rfl | hz
      · exact h1
      · exact lessR_trans _ _ _ h1 (h.1 z hz)
    · rw [if_neg h1]
      by_cases h2 : lessR y x = true
      · rw [if_pos h2]
        unfold Asc
        rw [List.pairwise_cons]
        refine ⟨fun z hz => ?_, ih h.2⟩
        rw [insR_mem] at hz
        rcases hz with rfl | hz
        · exact h2
        · exact h.1 z hz
      · rw [if_neg h2]
        unfold Asc
        rw [List.pairwise_cons]; exact h
/-- The different rows, in order. -/
def onceL (l : List (List Int)) : List (List Int) := l.foldr insR []
theorem onceL_mem (l : List (List Int)) (z : List Int) : z ∈ onceL l ↔ z ∈ l := by
  induction l with
  | nil => simp [onceL]
  | cons x t ih => unfold onceL at *; rw [List.foldr_cons, insR_mem, ih, List.mem_cons]
theorem onceL_asc (l : List (List Int)) : Asc (onceL l) := by
  induction l with
  | nil => exact List.Pairwise.nil
  | cons x t ih => unfold onceL at *; rw [List.foldr_cons]; exact insR_asc _ _ ih
theorem onceL_eq {l m : List (List Int)} (h1 : Asc m) (h2 : ∀ z, z ∈ m ↔ z ∈ l) : m = onceL l :=
  asc_unique m (onceL l) h1 (onceL_asc l) fun z => by rw [h2, onceL_mem]
theorem insR_len (x : List Int) (l : List (List Int)) : (insR x l).length ≤ l.length + 1 := by
  induction l with
  | nil => simp [insR]
  | cons y t ih =>
    unfold insR
    split
    · simp
    · split
      · simp; exact ih
      · simp
theorem onceL_len (l : List (List Int)) : (onceL l).length ≤ l.length := by
  induction l with
  | nil => simp [onceL]
  | cons x t ih => unfold onceL at *; rw [List.foldr_cons, List.length_cons]; have := insR_len x (t.foldr insR []); omega
theorem onceL_rows {l : List (List Int)} {n : Nat} (h : ∀ r ∈ l, r.length = n) : ∀ r ∈ onceL l, r.length = n := fun r hr => h r ((onceL_mem l r).1 hr)

/-! ### Two lists in order, s1 one: rows beside their values -/
def mergeP : List (Value × List Int) → List (Value × List Int) → List (Value × List Int)
  | [], bs => bs
  | a :: s1, [] => a :: s1
  | a :: s1, b :: bs => if lessR a.2 b.2 = true then a :: mergeP s1 (b :: bs) else if lessR b.2 a.2 = true then b :: mergeP (a :: s1) bs else mergeP (a :: s1) bs
termination_by la lb => la.length + lb.length
theorem mergeP_nil_left (bs : List (Value × List Int)) : mergeP [] bs = bs := by unfold mergeP; rfl
theorem mergeP_nil_right (s1 : List (Value × List Int)) : mergeP s1 [] = s1 := by cases s1 <;> (unfold mergeP; rfl)
theorem mergeP_cons (a b : Value × List Int) (s1 bs : List (Value × List Int)) : mergeP (a :: s1) (b :: bs) = if lessR a.2 b.2 = true then a :: mergeP s1 (b :: bs) else if lessR b.2 a.2 = true then b :: mergeP (a :: s1) bs else mergeP (a :: s1) bs := by
  rw [mergeP]
theorem mergeP_mem : ∀ (s1 bs : List (Value × List Int)) (z : Value × List Int), z ∈ mergeP s1 bs → z ∈ s1 ∨ z ∈ bs
  | [], bs, z, h => by rw [mergeP_nil_left] at h; exact .inr h
  | a :: s1, [], z, h => by rw [mergeP_nil_right] at h; exact .inl h
  | a :: s1, b :: bs, z, h => by
    rw [mergeP_cons] at h
    split at h
    · rw [List.mem_cons] at h
      rcases h with rfl | h
      · exact .inl (by simp)
      · exact (mergeP_mem s1 (b :: bs) z h).imp (fun h => by simp [h]) id
    · split at h
      · rw [List.mem_cons] at h
        rcases h with rfl | h
        · exact .inr (by simp)
        · exact (mergeP_mem (a :: s1) bs z h).imp id (fun h => by simp [h])
      · exact (mergeP_mem (a :: s1) bs z h).imp id (fun h => by simp [h])
termination_by s1 bs => s1.length + bs.length
def AscP (l : List (Value × List Int)) : Prop := l.Pairwise fun a b => lessR a.2 b.2 = true
theorem mergeP_asc : ∀ (s1 bs : List (Value × List Int)), AscP s1 → AscP bs → AscP (mergeP s1 bs)
  | [], bs, _, hb => by rw [mergeP_nil_left]; exact hb
  | a :: s1, [], ha, _ => by rw [mergeP_nil_right]; exact ha
  | a :: s1, b :: bs, ha, hb => by
    have ha' := ha
    have hb' := hb
    unfold AscP at ha' hb'
    rw [List.pairwise_cons] at ha' hb'
    rw [mergeP_cons]
    by_cases h1 : lessR a.2 b.2 = true
    · rw [if_pos h1]
      unfold AscP
      rw [List.pairwise_cons]
      refine ⟨fun z hz => ?_, mergeP_asc s1 (b :: bs) ha'.2 hb⟩
      rcases mergeP_mem s1 (b :: bs) z hz with h | h
      · exact ha'.1 z h
      · rw [List.mem_cons] at h
        rcases h with rfl | h
        · exact h1
        · exact lessR_trans _ _ _ h1 (hb'.1 z h)
    · rw [if_neg h1]
      by_cases h2 : lessR b.2 a.2 = true
      · rw [if_pos h2]
        unfold AscP
        rw [List.pairwise_cons]
        refine ⟨fun z hz => ?_, mergeP_asc (a :: s1) bs ha hb'.2⟩
        rcases mergeP_mem (a :: s1) bs z hz with h | h
        · rw [List.mem_cons] at h
          rcases h with rfl | h
          · exact h2
          · exact lessR_trans _ _ _ h2 (ha'.1 z h)
        · exact hb'.1 z h
      · rw [if_neg h2]; exact mergeP_asc (a :: s1) bs ha hb'.2
termination_by s1 bs => s1.length + bs.length
theorem mergeP_rows : ∀ (s1 bs : List (Value × List Int)) (x : List Int), (x ∈ (mergeP s1 bs).map (·.2)) ↔ x ∈ s1.map (·.2) ∨ x ∈ bs.map (·.2)
  | [], bs, x => by rw [mergeP_nil_left]; simp
  | a :: s1, [], x => by rw [mergeP_nil_right]; simp
  | a :: s1, b :: bs, x => by
    rw [mergeP_cons]
    by_cases h1 : lessR a.2 b.2 = true
    · rw [if_pos h1]
      have ih := mergeP_rows s1 (b :: bs) x
      simp only [List.map_cons, List.mem_cons] at ih ⊢
      rw [ih]
      constructor
      · rintro (h | h | h | h)
        · exact .inl (.inl h)
        · exact .inl (.inr h)
        · exact .inr (.inl h)
        · exact .inr (.inr h)
      · rintro ((h | h) | h | h)
        · exact .inl h
        · exact .inr (.inl h)
        · exact .inr (.inr (.inl h))
        · exact .inr (.inr (.inr h))
    · rw [if_neg h1]
      have ih := mergeP_rows (a :: s1) bs x
      by_cases h2 : lessR b.2 a.2 = true
      · rw [if_pos h2]
        simp only [List.map_cons, List.mem_cons] at ih ⊢
        rw [ih]
        constructor
        · rintro (h | (h | h) | h)
          · exact .inr (.inl h)
          · exact .inl (.inl h)
          · exact .inl (.inr h)
          · exact .inr (.inr h)
        · rintro ((h | h) | h | h)
          · exact .inr (.inl (.inl h))
          · exact .inr (.inl (.inr h))
          · exact .inl h
          · exact .inr (.inr h)
      · have e := lessR_total _ _ (by simpa using h1) (by simpa using h2)
        rw [if_neg h2]
        simp only [List.map_cons, List.mem_cons] at ih ⊢
        rw [ih]
        constructor
        · rintro ((h | h) | h)
          · exact .inl (.inl h)
          · exact .inl (.inr h)
          · exact .inr (.inr h)
        · rintro ((h | h) | h | h)
          · exact .inl (.inl h)
          · exact .inl (.inr h)
          · exact .inl (.inl (by rw [h, e]))
          · exact .inr h
termination_by s1 bs => s1.length + bs.length
theorem mergeP_pair {R : Value × List Int → Value × List Int → Prop} : ∀ (s1 bs : List (Value × List Int)), s1.Pairwise R → bs.Pairwise R → (∀ x ∈ s1, ∀ y ∈ bs, R x y ∧ R y x) → (mergeP s1 bs).Pairwise R
  | [], bs, _, hb, _ => by rw [mergeP_nil_left]; exact hb
  | a :: s1, [], ha, _, _ => by rw [mergeP_nil_right]; exact ha
  | a :: s1, b :: bs, ha, hb, hab => by
    have ha' := ha
    have hb' := hb
    rw [List.pairwise_cons] at ha' hb'
    rw [mergeP_cons]
    split
    · rw [List.pairwise_cons]
      refine ⟨fun z hz => ?_, mergeP_pair s1 (b :: bs) ha'.2 hb (fun x hx y hy => hab x (by simp [hx]) y hy)⟩
      rcases mergeP_mem s1 (b :: bs) z hz with h | h
      · exact ha'.1 z h
      · exact (hab a (by simp) z h).1
    · split
      · rw [List.pairwise_cons]
        refine ⟨fun z hz => ?_, mergeP_pair (a :: s1) bs ha hb'.2 (fun x hx y hy => hab x hx y (by simp [hy]))⟩
        rcases mergeP_mem (a :: s1) bs z hz with h | h
        · exact (hab z h b (by simp)).2
        · exact hb'.1 z h
      · exact mergeP_pair (a :: s1) bs ha hb'.2 (fun x hx y hy => hab x hx y (by simp [hy]))
termination_by s1 bs => s1.length + bs.length
theorem mergeP_len : ∀ (s1 bs : List (Value × List Int)), (mergeP s1 bs).length ≤ s1.length + bs.length
  | [], bs => by rw [mergeP_nil_left]; simp
  | a :: s1, [] => by rw [mergeP_nil_right]; simp
  | a :: s1, b :: bs => by
    rw [mergeP_cons]
    split
    · have := mergeP_len s1 (b :: bs); simp at *; omega
    · split
      · have := mergeP_len (a :: s1) bs; simp at *; omega
      · have := mergeP_len (a :: s1) bs; simp at *; omega
termination_by s1 bs => s1.length + bs.length
end Go.Proofs.YtnbjcelfdppkcaaGreat
namespace Go.Proofs.YtnbjcelfdppkcaaGreat
open Go.RowKit

def cmpI (x y : Int) : Int := if x < y then -1 else if y < x then 1 else 0
theorem isNaN_any (x : Int) (w : World) : Calls Tryz.prog 95 #[.int .i64 x] w fun e w' => e = .returned (.bool false) ∧ w = w' := by
  go_enter Tryz.func95, Tryz.ntmps95
  go_wp2
  go_ret
  exact ⟨ret_b (by simp), rfl⟩
theorem cmpI_any (x y : Int) (w : World) : Calls Tryz.prog 83 #[.int .i64 x, .int .i64 y] w fun e w' => e = .returned (.int .i64 (cmpI x y)) ∧ w = w' := by
  have HN := Lib.hid (fun z w => isNaN_any z w)
  by_cases h1 : x < y
  · have HE : Hid (cmpI x y = -1) := Lib.hid (by unfold cmpI; rw [if_pos h1])
    go_enter Tryz.func83, Tryz.ntmps83
    go_wp2_with (go_at_call 95; refine (HN.out _ _).mono ?_; rintro e w' ⟨rfl, rfl⟩)
    go_ret
    exact ⟨by rw [HE.out]; rfl, rfl⟩
  · by_cases h2 : y < x
    · have HE : Hid (cmpI x y = 1) := Lib.hid (by unfold cmpI; rw [if_neg h1, if_pos h2])
      go_enter Tryz.func83, Tryz.ntmps83
      go_wp2_with (go_at_call 95; refine (HN.out _ _).mono ?_; rintro e w' ⟨rfl, rfl⟩)
      go_ret
      exact ⟨by rw [HE.out]; rfl, rfl⟩
    · have HE : Hid (cmpI x y = 0) := Lib.hid (by unfold cmpI; rw [if_neg h1, if_neg h2])
      go_enter Tryz.func83, Tryz.ntmps83
      go_wp2_with (go_at_call 95; refine (HN.out _ _).mono ?_; rintro e w' ⟨rfl, rfl⟩)
      go_ret
      exact ⟨by rw [HE.out]; rfl, rfl⟩

/-- The order of rows as a number. -/
def cmpL : List Int → List Int → Int
  | [], [] => 0
  | [], _ :: _ => -1
  | _ :: _, [] => 1
  | a :: s, b :: t => if cmpI a b = 0 then cmpL s t else cmpI a b
theorem cmpI_zero {x y : Int} : cmpI x y = 0 ↔ x = y := by
  unfold cmpI
  split
  · constructor <;> (intro; omega)
  · split
    · constructor <;> (intro; omega)
    · constructor <;> (intro; omega)
theorem cmpL_less : ∀ (a b : List Int), decide (cmpL a b < 0) = lessR a b
  | [], [] => rfl
  | [], _ :: _ => rfl
  | _ :: _, [] => rfl
  | a :: s, b :: t => by
    unfold cmpL lessR
    by_cases h : a = b
    · rw [if_pos (cmpI_zero.2 h), if_pos h]; exact cmpL_less s t
    · rw [if_neg (fun e => h (cmpI_zero.1 e)), if_neg h]
      unfold cmpI
      by_cases h1 : a < b
      · simp [h1]
      · rw [if_neg h1, if_pos (by omega)]; simp [h1]
theorem cmpL_drop {a b : List Int} {k : Nat} (h1 : k < a.length) (h2 : k < b.length) : cmpL (a.drop k) (b.drop k) = if cmpI a[k] b[k] = 0 then cmpL (a.drop (k + 1)) (b.drop (k + 1)) else cmpI a[k] b[k] := by
  rw [List.drop_eq_getElem_cons h1, List.drop_eq_getElem_cons h2]; rfl

set_option maxHeartbeats 800000 in
theorem slCompare_any (v v' : Value) (l l' : List Int) (w : World) (hr : ReadI w v l) (hr' : ReadI w v' l') (hl : l.length ≤ 1000000000) (hl' : l'.length ≤ 1000000000) :
    Calls Tryz.prog 75 #[v, v'] w fun e w' => e = .returned (.int .i64 (cmpL l l')) ∧ w = w' := by
  obtain ⟨a, cap, rfl, ha⟩ := hr
  obtain ⟨a', cap', rfl, ha'⟩ := hr'
  have HA := Lib.hid ha
  have HA' := Lib.hid ha'
  clear ha ha'
  have HC := Lib.hid (fun x y w => cmpI_any x y w)
  go_enter Tryz.func75, Tryz.ntmps75
  go_wp2_with fail
  go_loop [11] (fun iv => ∃ (k : Nat), k ≤ l.length ∧ k ≤ l'.length ∧ iv = .int .i64 (k : Int) ∧ Hid (cmpL l l' = cmpL (l.drop k) (l'.drop k))) (fun iv => l.length - (intOf iv).toNat)
  case atStart => exact ⟨0, by omega, by omega, rfl, Lib.hid (by simp)⟩
  case round =>
    obtain ⟨k, hk, hk', rfl, hsame⟩ := hrel
    by_cases hlt : k < l.length
    · obtain ⟨x, rfl, hx⟩ := HA.out k hlt
      have z0 : (0 : Int) ≤ (k : Int) := by omega
      have z1 : (k : Int) < (l.length : Int) := by omega
      by_cases hlt' : k < l'.length
      · obtain ⟨x', rfl, hx'⟩ := HA'.out k hlt'
        have z2 : (k : Int) < (l'.length : Int) := by omega
        have z3 : ¬ (l'.length : Int) ≤ (k : Int) := by omega
        have HS := Lib.hid (cmpL_drop hlt hlt')
        obtain ⟨y, hy⟩ : ∃ y, l[k] = y := ⟨_, rfl⟩
        obtain ⟨y', hy'⟩ : ∃ y', l'[k] = y' := ⟨_, rfl⟩
        rw [hy, hy'] at HS
        rw [hy] at hx
        rw [hy'] at hx'
        clear hy hy'
        have HQ := Lib.hid (cmpI_any y y' w)
        by_cases he : cmpI y y' = 0
        · rw [he] at HQ
          have HE := Lib.hid he
          clear he
          go_wp2_with fail
          refine HQ.out.mono ?_
          rintro e w' ⟨rfl, rfl⟩
          go_wp2_with fail
          go_round
          case rel => exact ⟨k + 1, by omega, by omega, by go_num, Lib.hid (by rw [hsame.out, HS.out, if_pos HE.out])⟩
          case measure => simp [intOf]; omega
        · have HE := Lib.hid he
          obtain ⟨z, hz⟩ : ∃ z, cmpI y y' = z := ⟨_, rfl⟩
          have hn : (z != 0) = true := by rw [← hz]; simpa using he
          have HZ := Lib.hid hz
          rw [hz] at HQ
          clear he hz
          go_wp2_with fail
          refine HQ.out.mono ?_
          rintro e w' ⟨rfl, rfl⟩
          go_wp2_with fail
          go_ret
          exact ⟨by rw [hsame.out, HS.out, if_neg HE.out, HZ.out]; rfl, rfl⟩
      · have z3 : (l'.length : Int) ≤ (k : Int) := by omega
        go_wp2_with fail
        go_ret
        exact ⟨by rw [hsame.out, List.drop_eq_getElem_cons hlt, List.drop_of_length_le (by omega : l'.length ≤ k)]; rfl, rfl⟩
    · by_cases hlt' : l.length < l'.length
      · have z3 : (l.length : Int) < (l'.length : Int) := by omega
        have HK : Hid (k = l.length) := Lib.hid (by omega)
        go_wp2_with fail
        go_ret
        exact ⟨by rw [hsame.out, List.drop_of_length_le (by have := HK.out; omega : l.length ≤ k), List.drop_eq_getElem_cons (by have := HK.out; omega : k < l'.length)]; rfl, rfl⟩
      · have z3 : ¬ (l.length : Int) < (l'.length : Int) := by omega
        have HK : Hid (k = l.length) := Lib.hid (by omega)
        go_wp2_with fail
        go_ret
        exact ⟨by rw [hsame.out, List.drop_of_length_le (by have := HK.out; omega : l.length ≤ k), List.drop_of_length_le (by omega : l'.length ≤ k)]; rfl, rfl⟩
end Go.Proofs.YtnbjcelfdppkcaaGreat
namespace Go.Proofs.YtnbjcelfdppkcaaGreat
open Go.RowKit

/-- The block b holds the values r, and 0 behind them, in five cells. -/
def RecAt (w : World) (b : Nat) (r : List Int) : Prop := ∀ j, j < 5 → w.cell? ⟨b, j, none⟩ = some (.int .i64 (r.getD j 0)) ∧ w.frozen? ⟨b, j, none⟩ = false
theorem RecAt.kept {w w' : World} {b C : Nat} {r : List Int} (h : RecAt w b r) (hb : Below C w w') (hC : b < C) : RecAt w' b r := fun j hj => ⟨(hb.cell hC).trans (h j hj).1, (hb.frozen hC).trans (h j hj).2⟩
theorem getD_end (l : List Int) (j : Nat) (h : l.length ≤ j) : l.getD j 0 = 0 := by rw [List.getD_eq_getElem?_getD, List.getElem?_eq_none h]; rfl
theorem getD_app (l : List Int) (x : Int) (j : Nat) : (l ++ [x]).getD j 0 = if j = l.length then x else l.getD j 0 := by
  by_cases h : j < l.length + 1
  · rw [getD_snoc _ _ _ _ h]
    by_cases h2 : j = l.length
    · simp [h2]
    · rw [if_pos (by omega), if_neg h2]
  · rw [if_neg (by omega), getD_end l j (by omega), getD_end (l ++ [x]) j (by rw [List.length_append, List.length_singleton]; omega)]
theorem RecAt.store {w : World} {b : Nat} {l : List Int} (h : RecAt w b l) (x : Int) (h5 : l.length < 5) : RecAt (w.setCell ⟨b, l.length, none⟩ (.int .i64 x)) b (l ++ [x]) := by
  intro j hj
  rw [getD_app, World.frozen?_setCell]
  refine ⟨?_, (h j hj).2⟩
  by_cases hjl : j = l.length
  · subst hjl
    rw [if_pos rfl]
    exact World.cell?_setCell_same _ _ _ (h _ h5).1
  · rw [if_neg hjl]
    exact (World.cell?_setCell_other _ _ _ _ (by intro e; simp only [Addr.mk.injEq] at e; omega)).trans (h j hj).1
theorem RecAt.drewN {w : World} {b : Nat} {l : List Int} (h : RecAt w b l) (n : Nat) : RecAt (w.drewN n) b l := fun j hj => h j hj
theorem RecAt.fresh (w : World) : RecAt (w.alloc (.cells #[.int .i64 0, .int .i64 0, .int .i64 0, .int .i64 0, .int .i64 0] 77)) w.heap.size [] := by
  intro j hj
  rw [show ([] : List Int).getD j 0 = 0 by simp]
  refine ⟨?_, ?_⟩
  · rw [World.cell?_alloc_mark w #[.int .i64 0, .int .i64 0, .int .i64 0, .int .i64 0, .int .i64 0] 77 (0, 0) j]
    rcases (show j = 0 ∨ j = 1 ∨ j = 2 ∨ j = 3 ∨ j = 4 by omega) with rfl | rfl | rfl | rfl | rfl <;> rfl
  · exact World.frozen?_alloc_new _ _ _ _
set_option maxHeartbeats 1600000 in
theorem recordOf_any (v vc : Value) (r cs : List Int) (w : World) (hr : ReadI w v r) (hc : ReadI w vc cs) (h5 : cs.length ≤ 5) (hin : ∀ x ∈ cs, 0 ≤ x ∧ x < (r.length : Int)) :
    Calls Tryz.prog 56 #[v, vc] w fun e w' => ∃ b, e = .returned (.pointer (some ⟨b, 0, none⟩)) ∧ RecAt w' b (cs.map fun k => r.getD k.toNat 0) ∧ w.heap.size ≤ b ∧ b < w'.heap.size ∧ Below w.heap.size w w' := by
  obtain ⟨a, cap, rfl, ha⟩ := hr
  obtain ⟨a', cap', rfl, ha'⟩ := hc
  have HA := Lib.hid ha
  have HA' := Lib.hid ha'
  have HIN := Lib.hid hin
  clear ha ha' hin
  have hb1 := (Below.refl w.heap.size w).alloc (Nat.le_refl _) (.cells #[.int .i64 0, .int .i64 0, .int .i64 0, .int .i64 0, .int .i64 0] 77)
  have hrec := RecAt.fresh w
  have hsz : w.heap.size < (w.alloc (.cells #[.int .i64 0, .int .i64 0, .int .i64 0, .int .i64 0, .int .i64 0] 77)).heap.size := by simp
  go_enter Tryz.func56, Tryz.ntmps56
  go_wp2_with fail
  go_loopw [11] (fun iv wr => ∃ (k : Nat) (l : List Int), k ≤ cs.length ∧ iv = .int .i64 (k : Int) ∧ Hid (l = (cs.take k).map fun k => r.getD k.toNat 0) ∧ RecAt wr w.heap.size l ∧ w.heap.size < wr.heap.size ∧ Below w.heap.size w wr) (fun iv _ => cs.length - (intOf iv).toNat)
  case atStart => exact ⟨0, [], by omega, rfl, Lib.hid rfl, hrec, hsz, hb1⟩
  case round =>
    clear hrec hsz hb1
    obtain ⟨k, l, hk, rfl, hL, hrec, hsz, hb⟩ := hrel
    have hll : l.length = k := by rw [hL.out, List.length_map, List.length_take]; omega
    by_cases hlt : k < cs.length
    · obtain ⟨x', rfl, hx'⟩ := HA'.out k hlt
      have hin := HIN.out cs[k] (List.getElem_mem _)
      obtain ⟨q, hq⟩ : ∃ q : Nat, cs[k] = (q : Int) := ⟨cs[k].toNat, by omega⟩
      rw [hq] at hin hx'
      obtain ⟨x, rfl, hx⟩ := HA.out q (by omega)
      have hgd := get_getD r q (by omega)
      rw [hgd] at hx
      have hy := (hb.cell (World.block_lt_of_cell? w _ hx)).trans hx
      have hy' := (hb.cell (World.block_lt_of_cell? w _ hx')).trans hx'
      have HS := Lib.hid (map_take_succ cs (fun k => r.getD k.toNat 0) 0 k hlt)
      have hgc := get_getD cs k hlt
      rw [← hgc, hq, show ((q : Nat) : Int).toNat = q from rfl] at HS
      obtain ⟨y, hyy⟩ : ∃ y, r.getD q 0 = y := ⟨_, rfl⟩
      rw [hyy] at hy HS
      have z0 : (0 : Int) ≤ (k : Int) := by omega
      have z1 : (k : Int) < (cs.length : Int) := by omega
      have z2 : (k : Int) < 5 := by omega
      have z3 : (0 : Int) ≤ (q : Int) := by omega
      have z4 : (q : Int) < (r.length : Int) := by omega
      obtain ⟨hcell, hfz⟩ := hrec k (by omega)
      have HR := Lib.hid hrec
      have HB := Lib.hid hb
      have HLL := Lib.hid hll
      clear hx hx' hyy hgd hgc hq hrec hb hll hin
      go_wp2_with fail
      go_region
      go_wp2_with fail
      go_roundw
      case rel =>
        have hs := HR.out.store y (by rw [HLL.out]; omega)
        rw [HLL.out] at hs
        exact ⟨k + 1, _, by omega, by go_num, Lib.hid (by rw [HS.out, hL.out]), hs.drewN 1, by simpa using hsz, (HB.out.setCell (Nat.le_refl _) _).drew⟩
      case measure => simp [intOf]; omega
    · obtain rfl : k = cs.length := by omega
      go_wp2_with fail
      go_ret
      exact ⟨_, rfl, by have := hL.out; rw [List.take_length] at this; rw [← this]; exact hrec, Nat.le_refl _, hsz, hb⟩
/-- A record, read as a slice of five ints. -/
def pad5 (r : List Int) : List Int := (List.range 5).map fun j => r.getD j 0
theorem pad5_get (r : List Int) (j : Nat) (h : j < (pad5 r).length) : (pad5 r)[j] = r.getD j 0 := by simp [pad5]
theorem pad5_len (r : List Int) : (pad5 r).length = 5 := by simp [pad5]
theorem RecAt.read {w : World} {b : Nat} {r : List Int} (h : RecAt w b r) : ReadI w (.slice (some ⟨b, 0, none⟩) 5 5) (pad5 r) := by
  refine ⟨some ⟨b, 0, none⟩, 5, by rw [pad5_len], fun i hi => ⟨_, rfl, ?_⟩⟩
  rw [add_zero_off, (h i (by rw [pad5_len] at hi; exact hi)).1, pad5_get]
end Go.Proofs.YtnbjcelfdppkcaaGreat
namespace Go.Proofs.YtnbjcelfdppkcaaGreat
open Go.RowKit

/-- The six cells of a row's sides. -/
def sidC (s : List Int) : List Value := [.int .i64 (s.getD 0 0), .int .i64 (s.getD 1 0), .int .i64 (s.getD 2 0), .int .i64 (s.getD 3 0), .int .i64 (s.getD 4 0), .int .i64 (s.getD 5 0)]
theorem sidC_get (s : List Int) {j : Nat} (h : j < 6) : (sidC s)[j]? = some (.int .i64 (s.getD j 0)) := by
  rcases (show j = 0 ∨ j = 1 ∨ j = 2 ∨ j = 3 ∨ j = 4 ∨ j = 5 by omega) with rfl | rfl | rfl | rfl | rfl | rfl <;> rfl
def sidsV : List (List Int) → List Value
  | [] => []
  | s :: t => sidC s ++ sidsV t
theorem sidsV_len : ∀ l : List (List Int), (sidsV l).length = l.length * 6
  | [] => rfl
  | s :: t => by simp only [sidsV, List.length_append, List.length_cons, sidsV_len t]; simp [sidC]; omega
theorem sidsV_get : ∀ (l : List (List Int)) (i : Nat), i < l.length → ∀ j, j < 6 → (sidsV l)[i * 6 + j]? = some (.int .i64 ((l.getD i []).getD j 0))
  | [], i, h, _, _ => absurd h (Nat.not_lt_zero _)
  | s :: t, 0, _, j, hj => by
    have : (sidsV (s :: t))[0 * 6 + j]? = (sidC s)[j]? := by
      rw [Nat.zero_mul, Nat.zero_add]
      show (sidC s ++ sidsV t)[j]? = _
      exact List.getElem?_append_left (by simp [sidC]; omega)
    rw [this]
    exact sidC_get s hj
  | s :: t, i + 1, h, j, hj => by
    have ih := sidsV_get t i (by simpa using h) j hj
    have : (sidsV (s :: t))[(i + 1) * 6 + j]? = (sidsV t)[i * 6 + j]? := by
      show (sidC s ++ sidsV t)[(i + 1) * 6 + j]? = _
      rw [List.getElem?_append_right (by simp [sidC]; omega)]
      congr 1
      simp [sidC]; omega
    rw [this, ih]; rfl
theorem sidsV_app (s : List Int) : ∀ l : List (List Int), sidsV (l ++ [s]) = sidsV l ++ sidC s
  | [] => by simp [sidsV]
  | t :: l => by simp only [List.cons_append, sidsV, sidsV_app s l, List.append_assoc]
/-- A slice of sides that can be read. -/
def ReadSd (w : World) (v : Value) (l : List (List Int)) : Prop :=
  ∃ (a : Option Addr) (cap : Nat), v = .slice a l.length cap ∧ ∀ i, i < l.length → ∃ b o, a = some ⟨b, o, none⟩ ∧ ∀ j, j < 6 → w.cell? ⟨b, o + i * 6 + j, none⟩ = some (.int .i64 ((l.getD i []).getD j 0))
theorem ReadSd.kept {w w' : World} {v : Value} {l : List (List Int)} (h : ReadSd w v l) (hb : Below w.heap.size w w') : ReadSd w' v l := by
  obtain ⟨a, cap, hv, hc⟩ := h
  refine ⟨a, cap, hv, fun i hi => ?_⟩
  obtain ⟨b, o, ha, h0⟩ := hc i hi
  exact ⟨b, o, ha, fun j hj => (hb.cell (World.block_lt_of_cell? w _ (h0 j hj))).trans (h0 j hj)⟩
/-- Six cells in a block of their own. -/
def Box6 (w : World) (b : Nat) (a0 a1 a2 a3 a4 a5 : Int) : Prop :=
  w.cell? ⟨b, 0, none⟩ = some (.int .i64 a0) ∧ w.cell? ⟨b, 1, none⟩ = some (.int .i64 a1) ∧ w.cell? ⟨b, 2, none⟩ = some (.int .i64 a2) ∧ w.cell? ⟨b, 3, none⟩ = some (.int .i64 a3) ∧ w.cell? ⟨b, 4, none⟩ = some (.int .i64 a4) ∧ w.cell? ⟨b, 5, none⟩ = some (.int .i64 a5)
theorem Box6.new (w : World) (T : TypeId) (a0 a1 a2 a3 a4 a5 : Int) : Box6 (w.alloc (.cells #[.int .i64 a0, .int .i64 a1, .int .i64 a2, .int .i64 a3, .int .i64 a4, .int .i64 a5] T)) w.heap.size a0 a1 a2 a3 a4 a5 := by
  have h := World.cell?_alloc_mark w #[.int .i64 a0, .int .i64 a1, .int .i64 a2, .int .i64 a3, .int .i64 a4, .int .i64 a5] T (0, 0)
  exact ⟨(h 0).trans rfl, (h 1).trans rfl, (h 2).trans rfl, (h 3).trans rfl, (h 4).trans rfl, (h 5).trans rfl⟩
theorem Box6.kept {w w' : World} {b C : Nat} {a0 a1 a2 a3 a4 a5 : Int} (h : Box6 w b a0 a1 a2 a3 a4 a5) (hb : Below C w w') (hC : b < C) : Box6 w' b a0 a1 a2 a3 a4 a5 :=
  ⟨(hb.cell hC).trans h.1, (hb.cell hC).trans h.2.1, (hb.cell hC).trans h.2.2.1, (hb.cell hC).trans h.2.2.2.1, (hb.cell hC).trans h.2.2.2.2.1, (hb.cell hC).trans h.2.2.2.2.2⟩
end Go.Proofs.YtnbjcelfdppkcaaGreat
namespace Go.Proofs.YtnbjcelfdppkcaaGreat
open Go.RowKit

theorem equal_rec {a b : List Int} (ha : R5 a) (hb : R5 b) (w : World) : (Op.equalIn 10000 77 (recV a) (recV b)).run Tryz.prog w = .ok (decide (a = b)) w := by
  obtain ⟨r, h1, h2⟩ := run_equal_deep w (m := 2) (by omega) (k := 77) (arrR.at 0) (by simp only [arrR.hu]) (keyOf_klR ha) (keyOf_klR hb)
  have hr : r = decide (a = b) := by
    rw [Bool.eq_iff_iff, h2, decide_eq_true_iff]
    exact ⟨klR_inj ha hb, fun e => by rw [e]⟩
  rw [← hr]; exact h1
theorem take5_get (a : List Int) {j : Nat} (h : j < 5) : (a.take 5).getD j 0 = a.getD j 0 := by
  rw [List.getD_eq_getElem?_getD, List.getD_eq_getElem?_getD, List.getElem?_take, if_pos h]
theorem s6_r5 {a : List Int} (h : S6 a) : R5 (a.take 5) := ⟨by rw [List.length_take, h.1]; rfl, fun j hj => by rw [take5_get a hj]; exact h.2 j (by omega)⟩
theorem take5_rec (a : List Int) : recV (a.take 5) = .agg #[.int .i64 (a.getD 0 0), .int .i64 (a.getD 1 0), .int .i64 (a.getD 2 0), .int .i64 (a.getD 3 0), .int .i64 (a.getD 4 0)] := by
  unfold recV
  rw [take5_get a (by omega), take5_get a (by omega), take5_get a (by omega), take5_get a (by omega), take5_get a (by omega)]
end Go.Proofs.YtnbjcelfdppkcaaGreat
namespace Go.Proofs.YtnbjcelfdppkcaaGreat
open Go.RowKit

/-- Two rows' sides violate. -/
def vioB (l : List (List Int)) (i k : Nat) : Bool := decide ((l.getD i []).take 5 = (l.getD k []).take 5) && !decide (l.getD i [] = l.getD k [])
theorem cell_on6 {w w' : World} {p : Addr} {v : Value} (h : w.cell? p = some v) (b : Below w.heap.size w w') : w'.cell? p = some v := (b.cell (World.block_lt_of_cell? w _ h)).trans h
def CutSd (w : World) (b : Nat) (o i : Nat) (s0 s1 s2 s3 s4 s5 : Int) : Prop :=
  w.cell? ⟨b, o + i * 6, none⟩ = some (.int .i64 s0) ∧ w.cell? ⟨b, o + i * 6 + 1, none⟩ = some (.int .i64 s1) ∧ w.cell? ⟨b, o + i * 6 + 2, none⟩ = some (.int .i64 s2) ∧ w.cell? ⟨b, o + i * 6 + 3, none⟩ = some (.int .i64 s3) ∧ w.cell? ⟨b, o + i * 6 + 4, none⟩ = some (.int .i64 s4) ∧ w.cell? ⟨b, o + i * 6 + 5, none⟩ = some (.int .i64 s5)
theorem ReadSd.at {w : World} {a : Option Addr} {n cap : Nat} {l : List (List Int)} (h : ReadSd w (.slice a n cap) l) {i : Nat} (hi : i < l.length) (h6 : S6 (l.getD i [])) : ∃ b o s0 s1 s2 s3 s4 s5, a = some ⟨b, o, none⟩ ∧ l.getD i [] = [s0, s1, s2, s3, s4, s5] ∧ CutSd w b o i s0 s1 s2 s3 s4 s5 := by
  obtain ⟨a', cap', hv, hc⟩ := h
  cases hv
  obtain ⟨b, o, ha, h0⟩ := hc i hi
  exact ⟨b, o, _, _, _, _, _, _, ha, s6_list h6, h0 0 (by omega), h0 1 (by omega), h0 2 (by omega), h0 3 (by omega), h0 4 (by omega), h0 5 (by omega)⟩
theorem CutSd.on {w w' : World} {b o i : Nat} {s0 s1 s2 s3 s4 s5 : Int} (h : CutSd w b o i s0 s1 s2 s3 s4 s5) (hb : Below w.heap.size w w') : CutSd w' b o i s0 s1 s2 s3 s4 s5 :=
  ⟨cell_on6 h.1 hb, cell_on6 h.2.1 hb, cell_on6 h.2.2.1 hb, cell_on6 h.2.2.2.1 hb, cell_on6 h.2.2.2.2.1 hb, cell_on6 h.2.2.2.2.2 hb⟩
theorem sidV_six (s0 s1 s2 s3 s4 s5 : Int) : sidV [s0, s1, s2, s3, s4, s5] = .agg #[.int .i64 s0, .int .i64 s1, .int .i64 s2, .int .i64 s3, .int .i64 s4, .int .i64 s5] := rfl
end Go.Proofs.YtnbjcelfdppkcaaGreat
namespace Go.Proofs.YtnbjcelfdppkcaaGreat
open Go.RowKit

/-- A cell that is not equal to itself becomes one that no other row has. -/
def tapC (m : Int) (i : Nat) (x : Int) : Int := if eqC m x x = true then x else -2 - (i : Int)
def tapR (m : Int) (i : Nat) (r : List Int) : List Int := r.map (tapC m i)
theorem tapR_len (m : Int) (i : Nat) (r : List Int) : (tapR m i r).length = r.length := List.length_map _
theorem tapR_get (m : Int) (i : Nat) (r : List Int) (j : Nat) (h : j < r.length) : (tapR m i r).getD j 0 = tapC m i (r.getD j 0) := by
  unfold tapR
  rw [List.getD_eq_getElem?_getD, List.getElem?_map, List.getElem?_eq_getElem h, List.getD_eq_getElem?_getD, List.getElem?_eq_getElem h]; rfl
end Go.Proofs.YtnbjcelfdppkcaaGreat
