/- Texts of this claim, merged: ClP, ClH, ClR, ClS, ClG. Conditions: as stated. -/
import Derived.Test.YtnbjcelfdppkcadGreatXz17
import Derived.Test.YtnbjcelfdppkcadGreatXz13
import Derived.Test.YtnbjcelfdppkcadGreatXz14
import Derived.Test.YtnbjcelfdppkcadGreatXz15
namespace Go.Proofs.YtnbjcelfdppkcadGreat
open Go.RowKit

def memTo (q : List (Int × Int)) (d : Int × Int) : Nat → Bool
  | 0 => false
  | k + 1 => memTo q d k || decide (q.getD k (0, 0) = d)
def dedTo (n : Int) (l : List (Int × Int)) : Nat → List (Int × Int)
  | 0 => []
  | i + 1 => if memTo (dedTo n l i) (redD n l (l.getD i (0, 0))) (dedTo n l i).length = true then dedTo n l i else dedTo n l i ++ [redD n l (l.getD i (0, 0))]
def rmL (n : Int) : Nat → List (Int × Int) → Nat → List (Int × Int)
  | 0, q, _ => q
  | k + 1, q, i => if impB n (q.eraseIdx i) (q.getD i (0, 0)) = true then rmL n k (q.eraseIdx i) i else rmL n k q (i + 1)
def coL11 (n : Int) (l : List (Int × Int)) : List (Int × Int) := if arD n l = true then rmL n (dedTo n l l.length).length (dedTo n l l.length) 0 else []
def lenOf11 (v : Value) : Nat := match v with | .slice _ n _ => n | _ => 0
theorem dedTo_len (n : Int) (l : List (Int × Int)) : ∀ i, (dedTo n l i).length ≤ i
  | 0 => Nat.le_refl _
  | i + 1 => by
    have ih := dedTo_len n l i
    unfold dedTo
    split
    · omega
    · rw [List.length_append, List.length_singleton]; omega
theorem erase_len {q : List (Int × Int)} {i : Nat} (h : i < q.length) : (q.eraseIdx i).length + 1 = q.length := by rw [List.length_eraseIdx, if_pos h]; omega
theorem rm_step {n : Int} {r : List (Int × Int)} {i : Nat} (h : i < r.length) : rmL n (r.length - i) r i = if impB n (r.eraseIdx i) (r.getD i (0, 0)) = true then rmL n ((r.eraseIdx i).length - i) (r.eraseIdx i) i else rmL n (r.length - (i + 1)) r (i + 1) := by
  have e1 := erase_len h
  obtain ⟨k, hk⟩ : ∃ k, r.length - i = k + 1 := ⟨r.length - i - 1, by omega⟩
  rw [hk, show (r.eraseIdx i).length - i = k by omega, show r.length - (i + 1) = k by omega]
  rfl
theorem rm_end {n : Int} {r : List (Int × Int)} {i : Nat} (h : ¬ i < r.length) : rmL n (r.length - i) r i = r := by
  rw [show r.length - i = 0 by omega]
  rfl
section
set_option maxRecDepth 20000
set_option maxHeartbeats 1600000
end
end Go.Proofs.YtnbjcelfdppkcadGreat
namespace Go.Proofs.YtnbjcelfdppkcadGreat
open Go.RowKit

theorem chkX_cons (l : List (Int × Int)) (x : Nat) (t : Int × Int × Int) (s : List (Int × Int × Int)) : ∀ j, chkX l x (t :: s) (j + 1) = chkX l (orN x (l.getD t.1.toNat (0, 0)).2.toNat) s j
  | 0 => rfl
  | j + 1 => by
    have ih := chkX_cons l x t s j
    show orN (chkX l x (t :: s) (j + 1)) _ = orN (chkX l _ s j) _
    rw [ih]
    rfl
theorem chkTo_cons (l : List (Int × Int)) (x : Nat) (t : Int × Int × Int) (s : List (Int × Int × Int)) : ∀ j, chkTo l x (t :: s) (j + 1) = (chkAt l x t && chkTo l (orN x (l.getD t.1.toNat (0, 0)).2.toNat) s j)
  | 0 => by
    show (true && chkAt l x t) = (chkAt l x t && true)
    rw [Bool.true_and, Bool.and_true]
  | j + 1 => by
    have ih := chkTo_cons l x t s j
    have hx := chkX_cons l x t s j
    show (chkTo l x (t :: s) (j + 1) && chkAt l (chkX l x (t :: s) (j + 1)) (s.getD j (0, 0, 0))) = (chkAt l x t && (chkTo l _ s j && chkAt l (chkX l _ s j) (s.getD j (0, 0, 0))))
    rw [ih, hx, Bool.and_assoc]
/-- What is derived is right. -/
theorem drv_right {C : Nat} {l : List (Int × Int)} (hC : C ≤ 5) (hl : DepsN C l) {L R : Nat} (hL : L < 32) (hR : R < 5) (himp : bitB (clo l L) R = true) : ∀ k x, x < 32 → subN L x = true → subN x (clo l L) = true → 6 ≤ popN x + k → chkTo l x (drv l R k x) (drv l R k x).length = true ∧ bitB (chkX l x (drv l R k x) (drv l R k x).length) R = true
  | k, x, hx, h1, h2, h3 => by
    cases hb : bitB x R with
    | true =>
      rw [drv_end hb]
      exact ⟨rfl, hb⟩
    | false =>
      obtain ⟨k', y, hk, hf, hy, hd, hk', hy32, hLy, hyc⟩ := drv_step hC hl hL hR hx h1 h2 himp hb h3
      obtain ⟨i1, i2⟩ := drv_right hC hl hL hR himp k' y hy32 hLy hyc hk'
      have ht : orN x (l.getD ((frst l x : Int), (x : Int), (y : Int)).1.toNat (0, 0)).2.toNat = y := hy.symm
      have ha := frst_app hf
      unfold appN at ha
      rw [Bool.and_eq_true] at ha
      have hat : chkAt l x ((frst l x : Int), (x : Int), (y : Int)) = true := by
        unfold chkAt
        rw [ht]
        simp only
        rw [decide_eq_true (show 0 ≤ (frst l x : Int) ∧ (frst l x : Int) < (l.length : Int) by omega), show ((frst l x : Int)).toNat = frst l x from rfl, ha.1]
        simp
      rw [hd, List.length_cons, chkTo_cons, chkX_cons, ht, hat, i1, i2]
      exact ⟨rfl, rfl⟩
termination_by k => k
decreasing_by all_goals omega
theorem der_right {n : Int} {l : List (Int × Int)} {d : Int × Int} (h : impB n l d = true) : chkB n l d (derL n l d) = true := by
  have h2 := h
  unfold impB at h2
  rw [Bool.and_eq_true, Bool.and_eq_true] at h2
  obtain ⟨ha, hd, hb⟩ := h2
  obtain ⟨C, rfl, -, hC, -, hl⟩ := arD_n ha
  obtain ⟨-, k1, k2, k3⟩ := depB_iff.1 hd
  have hL : d.1.toNat < 32 := by
    unfold isA at k1
    rw [decide_eq_true_iff, show ((C : Int)).toNat = C from rfl] at k1
    have hz : ((2 ^ C : Nat) : Int) = (2 : Int) ^ C := by rw [Int.natCast_pow]; rfl
    have h32 := two5 hC
    omega
  obtain ⟨i1, i2⟩ := drv_right hC hl hL (by omega) hb 6 d.1.toNat hL (subN_refl _) (clo_spec hC hl hL).2.1 (by omega)
  unfold chkB derL
  rw [if_pos h, ha, hd, i1, i2]
  rfl
theorem drv_short {C : Nat} {l : List (Int × Int)} (hC : C ≤ 5) (hl : DepsN C l) (R : Nat) : ∀ k x, x < 32 → popN x + (drv l R k x).length ≤ 5
  | 0, x, _ => popN_le x
  | k + 1, x, hx => by
    unfold drv
    split
    · exact popN_le x
    · split
      · rename_i hf
        have ha := frst_app hf
        unfold appN at ha
        rw [Bool.and_eq_true, Bool.not_eq_true'] at ha
        obtain ⟨Ld, Rd, e, hLd, hRd⟩ := hl _ (memD hf)
        have eR : (l.getD (frst l x) (0, 0)).2.toNat = Rd := by rw [e]; rfl
        rw [eR] at ha ⊢
        have h1 := orN_not ⟨x, hx⟩ ⟨Rd, by omega⟩ ha.2
        have h2 := drv_short hC hl R k (orN x Rd) (orN_fin ⟨x, hx⟩ ⟨Rd, by omega⟩).1
        simp only at h1
        rw [List.length_cons]
        omega
      · exact popN_le x
theorem der_short (n : Int) (l : List (Int × Int)) (d : Int × Int) : (derL n l d).length ≤ 5 := by
  unfold derL
  split
  · rename_i h
    unfold impB at h
    rw [Bool.and_eq_true, Bool.and_eq_true] at h
    obtain ⟨ha, hd, -⟩ := h
    obtain ⟨C, rfl, -, hC, -, hl⟩ := arD_n ha
    obtain ⟨-, k1, -⟩ := depB_iff.1 hd
    have hL : d.1.toNat < 32 := by
      unfold isA at k1
      rw [decide_eq_true_iff, show ((C : Int)).toNat = C from rfl] at k1
      have hz : ((2 ^ C : Nat) : Int) = (2 : Int) ^ C := by rw [Int.natCast_pow]; rfl
      have h32 := two5 hC
      omega
    have := drv_short hC hl d.2.toNat 6 d.1.toNat hL
    omega
  · exact Nat.zero_le _
theorem andN_sub : ∀ a b : Fin 32, subN (a.val &&& b.val) a.val = true ∧ subN (a.val &&& b.val) b.val = true ∧ a.val &&& b.val ≤ a.val := by decide +kernel
theorem andN_bit : ∀ (a b : Fin 32) (R : Fin 5), bitB (a.val &&& b.val) R.val = (bitB a.val R.val && bitB b.val R.val) := by decide +kernel
theorem andN_int : ∀ a b : Fin 32, bits .and .i64 ((a.val : Nat) : Int) ((b.val : Nat) : Int) = ((a.val &&& b.val : Nat) : Int) := by decide +kernel
/-- What two closed sets have in common is closed. -/
theorem closed_and {C : Nat} {l : List (Int × Int)} (hC : C ≤ 5) (hl : DepsN C l) {a b : Nat} (ha : a < 32) (hb : b < 32) (h1 : ClosedN l a) (h2 : ClosedN l b) : ClosedN l (a &&& b) := by
  intro d hd hs
  obtain ⟨Ld, Rd, e, hLd, hRd⟩ := hl d hd
  obtain ⟨s1, s2, -⟩ := andN_sub ⟨a, ha⟩ ⟨b, hb⟩
  have q1 := h1 d hd (subN_trans hs s1)
  have q2 := h2 d hd (subN_trans hs s2)
  have eR : d.2.toNat = Rd := by rw [e]; rfl
  rw [eR] at q1 q2 ⊢
  rw [andN_bit ⟨a, ha⟩ ⟨b, hb⟩ ⟨Rd, by omega⟩]
  simp only
  rw [q1, q2]
  rfl
theorem brd_mem (f : Nat → Bool) (y : Int) : ∀ n, (y ∈ brdTo f n ↔ ∃ x : Nat, x < n ∧ f x = true ∧ y = (x : Int))
  | 0 => by
    constructor
    · intro h; cases h
    · rintro ⟨x, h, -⟩; omega
  | n + 1 => by
    have ih := brd_mem f y n
    have h : brdTo f (n + 1) = if f n = true then brdTo f n ++ [(n : Int)] else brdTo f n := rfl
    rw [h]
    split
    · rename_i hf
      rw [List.mem_append, ih, List.mem_singleton]
      constructor
      · rintro (⟨x, h1, h2, h3⟩ | h3)
        · exact ⟨x, by omega, h2, h3⟩
        · exact ⟨n, by omega, hf, h3⟩
      · rintro ⟨x, h1, h2, h3⟩
        by_cases e : x = n
        · rw [e] at h3; exact .inr h3
        · exact .inl ⟨x, by omega, h2, h3⟩
    · rename_i hf
      rw [ih]
      constructor
      · rintro ⟨x, h1, h2⟩; exact ⟨x, by omega, h2⟩
      · rintro ⟨x, h1, h2, h3⟩
        by_cases e : x = n
        · rw [e] at h2; exact absurd h2 hf
        · exact ⟨x, by omega, h2, h3⟩
theorem cls_mem {C : Nat} {l : List (Int × Int)} (ha : arD (C : Int) l = true) (y : Int) : y ∈ clsL (C : Int) l ↔ ∃ x : Nat, x < 2 ^ C ∧ ClosedN l x ∧ y = (x : Int) := by
  unfold clsL
  rw [if_pos ha, show ((C : Int)).toNat = C from rfl, brd_mem]
  refine exists_congr fun x => and_congr_right fun _ => and_congr_left fun _ => clB_iff l x
/-- Closed sets hold what they have in common. -/
theorem cls_and {C : Nat} {l : List (Int × Int)} (hC : C ≤ 5) (hl : DepsN C l) (ha : arD (C : Int) l = true) {y z : Int} (hy : y ∈ clsL (C : Int) l) (hz : z ∈ clsL (C : Int) l) : bits .and .i64 y z ∈ clsL (C : Int) l := by
  obtain ⟨a, ha1, ha2, rfl⟩ := (cls_mem ha y).1 hy
  obtain ⟨b, hb1, hb2, rfl⟩ := (cls_mem ha z).1 hz
  have h32 := two5 hC
  refine (cls_mem ha _).2 ⟨a &&& b, ?_, closed_and hC hl (by omega) (by omega) ha2 hb2, andN_int ⟨a, by omega⟩ ⟨b, by omega⟩⟩
  have := (andN_sub ⟨a, by omega⟩ ⟨b, by omega⟩).2.2
  simp only at this
  omega
/-- An implied dependency holds in every closed set. -/
theorem cls_imp {C : Nat} {l : List (Int × Int)} (hC : C ≤ 5) (hl : DepsN C l) {L R x : Nat} (hL : L < 32) (hR : R < 5) (hx : x < 32) (himp : bitB (clo l L) R = true) (hc : ClosedN l x) (hs : subN L x = true) : bitB x R = true := by
  obtain ⟨c1, -, -, -, c4⟩ := clo_spec hC hl hL
  exact sub_bitN c1 hx (c4 x hx hs hc) hR himp
/-- The closure of a closure. -/
theorem clo_clo {C : Nat} {l : List (Int × Int)} (hC : C ≤ 5) (hl : DepsN C l) {x : Nat} (hx : x < 32) : clo l (clo l x) = clo l x := by
  obtain ⟨c1, -, -, c3, -⟩ := clo_spec hC hl hx
  exact (clo_id hC hl c1).2 c3
end Go.Proofs.YtnbjcelfdppkcadGreat
namespace Go.Proofs.YtnbjcelfdppkcadGreat
open Go.RowKit

theorem clrN_mono : ∀ (a b : Fin 32) (i : Fin 5), subN a.val b.val = true → subN (clrN a.val i.val) (clrN b.val i.val) = true := by decide +kernel
theorem clrN_bits : ∀ (x : Fin 32) (i : Fin 5), bitB (clrN x.val i.val) i.val = false ∧ clrN x.val i.val < 32 ∧ subN (clrN x.val i.val) x.val = true := by decide +kernel
theorem clrN_low : ∀ (C : Fin 6) (x : Fin 32) (i : Fin 5), x.val < 2 ^ C.val → clrN x.val i.val < 2 ^ C.val := by decide +kernel
section
variable {C : Nat} {l : List (Int × Int)} (hC : C ≤ 5) (hl : DepsN C l)
include hC hl
theorem clo_mono {x y : Nat} (hx : x < 32) (hy : y < 32) (h : subN x y = true) : subN (clo l x) (clo l y) = true := by
  obtain ⟨h1, h2, -, h4, -⟩ := clo_spec hC hl hy
  obtain ⟨-, -, -, -, h5⟩ := clo_spec hC hl hx
  exact h5 _ h1 (subN_trans h h2) h4
theorem clo_fewer {l' : List (Int × Int)} (hl' : DepsN C l') (h : ∀ y, y < 32 → ClosedN l y → ClosedN l' y) {x : Nat} (hx : x < 32) : subN (clo l' x) (clo l x) = true := by
  obtain ⟨h1, h2, -, h4, -⟩ := clo_spec hC hl hx
  obtain ⟨-, -, -, -, h5⟩ := clo_spec hC hl' hx
  exact h5 _ h1 h2 (h _ h1 h4)
theorem clo_same {l' : List (Int × Int)} (hl' : DepsN C l') (h : ∀ y, y < 32 → (ClosedN l y ↔ ClosedN l' y)) {x : Nat} (hx : x < 32) : clo l x = clo l' x :=
  subN_anti' (clo_fewer hC hl' hl (fun y hy => (h y hy).2) hx) (clo_fewer hC hl hl' (fun y hy => (h y hy).1) hx)
omit hl in
theorem redAt_facts {R x i : Nat} (hx : x < 32) (hi : i < 5) : redAt l R x i < 32 ∧ subN (redAt l R x i) x = true ∧ (bitB (clo l x) R = true → bitB (clo l (redAt l R x i)) R = true) ∧ (bitB (redAt l R x i) i = true → bitB (clo l (clrN x i)) R = false) ∧ (x < 2 ^ C → redAt l R x i < 2 ^ C) := by
  obtain ⟨h1, h2, h3⟩ := clrN_bits ⟨x, hx⟩ ⟨i, hi⟩
  have h4 := clrN_low ⟨C, by omega⟩ ⟨x, hx⟩ ⟨i, hi⟩
  simp only at h1 h2 h3 h4
  unfold redAt
  cases hb : bitB x i with
  | false =>
    rw [if_neg (by decide)]
    exact ⟨hx, subN_refl _, fun h => h, fun h => (by rw [hb] at h; cases h), fun h => h⟩
  | true =>
    rw [if_pos rfl]
    cases hc : bitB (clo l (clrN x i)) R with
    | false =>
      rw [if_neg (by decide)]
      exact ⟨hx, subN_refl _, fun h => h, fun _ => rfl, fun h => h⟩
    | true =>
      rw [if_pos rfl]
      exact ⟨h2, h3, fun _ => hc, fun h => (by rw [h1] at h; cases h), h4⟩
theorem redN_facts {R L : Nat} (hL : L < 32) (hR : R < 5) : ∀ i, i ≤ 5 → redN l R L i < 32 ∧ subN (redN l R L i) L = true ∧ (bitB (clo l L) R = true → bitB (clo l (redN l R L i)) R = true) ∧ (∀ j, j < i → bitB (redN l R L i) j = true → bitB (clo l (clrN (redN l R L i) j)) R = false) ∧ (L < 2 ^ C → redN l R L i < 2 ^ C) := by
  intro i
  induction i with
  | zero => exact fun _ => ⟨hL, subN_refl _, fun h => h, fun j h => absurd h (Nat.not_lt_zero _), fun h => h⟩
  | succ i ih =>
    intro hi
    obtain ⟨a1, a2, a3, a4, a5⟩ := ih (by omega)
    obtain ⟨b1, b2, b3, b4, b5⟩ := redAt_facts hC (l := l) (R := R) a1 (show i < 5 by omega)
    have e : redN l R L (i + 1) = redAt l R (redN l R L i) i := rfl
    rw [e]
    refine ⟨b1, subN_trans b2 a2, fun h => b3 (a3 h), fun j hj hb => ?_, fun h => b5 (a5 h)⟩
    have hj5 : j < 5 := by omega
    have k1 := clrN_mono ⟨_, b1⟩ ⟨_, a1⟩ ⟨j, hj5⟩ b2
    simp only at k1
    have c1 := (clrN_bits ⟨_, b1⟩ ⟨j, hj5⟩).2.1
    have c2 := (clrN_bits ⟨_, a1⟩ ⟨j, hj5⟩).2.1
    have hm := clo_mono hC hl c1 c2 k1
    have d1 := (clo_spec hC hl c1).1
    have d2 := (clo_spec hC hl c2).1
    have hno : bitB (clo l (clrN (redN l R L i) j)) R = false := by
      by_cases ej : j = i
      · subst ej; exact b4 hb
      · exact a4 j (by omega) (sub_bitN b1 a1 b2 hj5 hb)
    cases hx : bitB (clo l (clrN (redAt l R (redN l R L i) i) j)) R with
    | false => rfl
    | true => rw [sub_bitN d1 d2 hm hR hx] at hno; cases hno
omit hC hl in
/-- A left side from which nothing can go is left as it is. -/
theorem redN_stay {R X : Nat} (h : ∀ j, j < 5 → bitB X j = true → bitB (clo l (clrN X j)) R = false) : ∀ i, i ≤ 5 → redN l R X i = X := by
  intro i
  induction i with
  | zero => exact fun _ => rfl
  | succ i ih =>
    intro hi
    have e : redN l R X (i + 1) = redAt l R (redN l R X i) i := rfl
    rw [e, ih (by omega)]
    unfold redAt
    cases hb : bitB X i with
    | false => rfl
    | true => rw [h i (by omega) hb]; rfl
theorem redN_twice {R L : Nat} (hL : L < 32) (hR : R < 5) : redN l R (redN l R L 5) 5 = redN l R L 5 :=
  redN_stay (redN_facts hC hl hL hR 5 (Nat.le_refl _)).2.2.2.1 5 (Nat.le_refl _)
end
end Go.Proofs.YtnbjcelfdppkcadGreat
namespace Go.Proofs.YtnbjcelfdppkcadGreat
open Go.RowKit

theorem getD_mem11 {l : List (Int × Int)} {i : Nat} (h : i < l.length) : l[i]? = some (l.getD i (0, 0)) := by
  rw [List.getD_eq_getElem?_getD, List.getElem?_eq_getElem h]; rfl
theorem mem_at11 {l : List (Int × Int)} {d : Int × Int} (h : d ∈ l) : ∃ i, i < l.length ∧ l.getD i (0, 0) = d := by
  obtain ⟨i, hi, e⟩ := List.getElem_of_mem h
  exact ⟨i, hi, by rw [List.getD_eq_getElem?_getD, List.getElem?_eq_getElem hi]; exact e⟩
theorem mem_erase11 {l : List (Int × Int)} {k : Nat} {d : Int × Int} : d ∈ l.eraseIdx k ↔ ∃ i, i ≠ k ∧ l[i]? = some d := List.mem_eraseIdx_iff_getElem?
theorem erase_at {q : List (Int × Int)} {i j : Nat} (h : j < i) : (q.eraseIdx i).getD j (0, 0) = q.getD j (0, 0) := by
  rw [List.getD_eq_getElem?_getD, List.getD_eq_getElem?_getD, List.getElem?_eraseIdx, if_pos h]
theorem erase_two {q : List (Int × Int)} {i j : Nat} (h : j < i) {d : Int × Int} (hd : d ∈ (q.eraseIdx i).eraseIdx j) : d ∈ q.eraseIdx j := by
  obtain ⟨m, hm, e⟩ := mem_erase11.1 hd
  rw [List.getElem?_eraseIdx] at e
  by_cases hmi : m < i
  · rw [if_pos hmi] at e
    exact mem_erase11.2 ⟨m, hm, e⟩
  · rw [if_neg hmi] at e
    exact mem_erase11.2 ⟨m + 1, by omega, e⟩
theorem arD_sub {n : Int} {l l' : List (Int × Int)} (h : arD n l = true) (hs : ∀ d ∈ l', d ∈ l) (hn : l'.length ≤ l.length) : arD n l' = true := by
  unfold arD at h ⊢
  rw [Bool.and_eq_true, Bool.and_eq_true, List.all_eq_true, decide_eq_true_iff, decide_eq_true_iff] at h ⊢
  exact ⟨fun d hd => h.1 d (hs d hd), h.2.1, Nat.le_trans hn h.2.2⟩
theorem closed_sub {l l' : List (Int × Int)} (hs : ∀ d ∈ l', d ∈ l) {y : Nat} (h : ClosedN l y) : ClosedN l' y := fun d hd => h d (hs d hd)
theorem impB_parts {n : Int} {l : List (Int × Int)} {d : Int × Int} (h : impB n l d = true) : ∃ C L R : Nat, n = (C : Int) ∧ 1 ≤ C ∧ C ≤ 5 ∧ d = ((L : Int), (R : Int)) ∧ L < 32 ∧ L < 2 ^ C ∧ R < C ∧ arD n l = true ∧ DepsN C l ∧ bitB (clo l L) R = true := by
  unfold impB at h
  rw [Bool.and_eq_true, Bool.and_eq_true] at h
  obtain ⟨ha, hd, hb⟩ := h
  obtain ⟨C, rfl, hC1, hC5, -, hl⟩ := arD_n ha
  obtain ⟨-, k1, k2, k3⟩ := depB_iff.1 hd
  obtain ⟨d0, d1⟩ := d
  simp only at k1 k2 k3 hb
  obtain ⟨L, rfl, hL, hLC⟩ := isA_lt hC5 k1
  obtain ⟨R, rfl⟩ : ∃ R : Nat, d1 = (R : Int) := ⟨d1.toNat, by omega⟩
  exact ⟨C, L, R, rfl, hC1, hC5, rfl, hL, hLC, by omega, ha, hl, hb⟩
/-- What fewer dependencies imply, more of them imply. -/
theorem impB_more {n : Int} {l l' : List (Int × Int)} {d : Int × Int} (ha : arD n l = true) (hs : ∀ e ∈ l', e ∈ l) (h : impB n l' d = true) : impB n l d = true := by
  have h2 := h
  obtain ⟨C, L, R, rfl, hC1, hC5, rfl, hL, hLC, hR, ha', hl', hb⟩ := impB_parts h
  obtain ⟨C', e, -, -, -, hl⟩ := arD_n ha
  obtain rfl : C = C' := by omega
  unfold impB at h2 ⊢
  rw [Bool.and_eq_true, Bool.and_eq_true] at h2 ⊢
  refine ⟨ha, h2.2.1, ?_⟩
  exact sub_bitN (clo_spec hC5 hl' hL).1 (clo_spec hC5 hl hL).1 (clo_fewer hC5 hl hl' (fun y _ => closed_sub hs) hL) (by omega) hb
/-- A dependency that the others imply can go: the closed sets stay. -/
theorem closed_erase {n : Int} {q : List (Int × Int)} {i : Nat} (hi : i < q.length) (h : impB n (q.eraseIdx i) (q.getD i (0, 0)) = true) {y : Nat} (hy : y < 32) : ClosedN (q.eraseIdx i) y ↔ ClosedN q y := by
  refine ⟨fun hc d hd => ?_, closed_sub (fun d hd => List.mem_of_mem_eraseIdx hd)⟩
  obtain ⟨C, L, R, rfl, hC1, hC5, e, hL, hLC, hR, ha, hl, hb⟩ := impB_parts h
  obtain ⟨j, hj, ej⟩ := mem_at11 hd
  by_cases hji : j = i
  · subst hji
    rw [← ej, e]
    intro hs
    exact cls_imp hC5 hl hL (by omega) hy hb hc hs
  · exact hc d (mem_erase11.2 ⟨j, hji, by rw [getD_mem11 hj, ej]⟩)
theorem rm_facts {n : Int} : ∀ (k : Nat) (q : List (Int × Int)) (i : Nat), k = q.length - i → i ≤ q.length → arD n q = true → (∀ j, j < i → impB n (q.eraseIdx j) (q.getD j (0, 0)) = false) →
    (∀ d ∈ rmL n k q i, d ∈ q) ∧ (rmL n k q i).length ≤ q.length ∧ (∀ y, y < 32 → (ClosedN (rmL n k q i) y ↔ ClosedN q y)) ∧ ∀ j, j < (rmL n k q i).length → impB n ((rmL n k q i).eraseIdx j) ((rmL n k q i).getD j (0, 0)) = false := by
  intro k
  induction k with
  | zero => exact fun q i hk hi ha hn => ⟨fun d h => h, Nat.le_refl _, fun y _ => Iff.rfl, fun j hj => hn j (by have h : j < q.length := hj; omega)⟩
  | succ k ih =>
    intro q i hk hi ha hn
    have hlt : i < q.length := by omega
    have he := erase_len hlt
    have hsub : ∀ d ∈ q.eraseIdx i, d ∈ q := fun d hd => List.mem_of_mem_eraseIdx hd
    unfold rmL
    cases hm : impB n (q.eraseIdx i) (q.getD i (0, 0)) with
    | true =>
      rw [if_pos rfl]
      have ha' := arD_sub ha hsub (by omega)
      obtain ⟨h1, h2, h3, h4⟩ := ih (q.eraseIdx i) i (by omega) (by omega) ha' (fun j hj => by
        cases hx : impB n ((q.eraseIdx i).eraseIdx j) ((q.eraseIdx i).getD j (0, 0)) with
        | false => rfl
        | true =>
          rw [erase_at hj] at hx
          have h := impB_more (arD_sub ha (fun d hd => List.mem_of_mem_eraseIdx hd) (by have := erase_len (show j < q.length by omega); omega)) (fun d hd => erase_two hj hd) hx
          rw [hn j hj] at h
          cases h)
      exact ⟨fun d hd => hsub d (h1 d hd), by omega, fun y hy => (h3 y hy).trans (closed_erase hlt hm hy), h4⟩
    | false =>
      rw [if_neg (by decide)]
      exact ih q (i + 1) (by omega) (by omega) ha (fun j hj => by
        by_cases e : j = i
        · rw [e]; exact hm
        · exact hn j (by omega))
theorem memTo_iff {q : List (Int × Int)} {d : Int × Int} : ∀ k, k ≤ q.length → (memTo q d k = true ↔ ∃ i, i < k ∧ q.getD i (0, 0) = d)
  | 0, _ => ⟨fun h => (by cases h), fun ⟨i, hi, _⟩ => absurd hi (Nat.not_lt_zero _)⟩
  | k + 1, hk => by
    have ih := memTo_iff (q := q) (d := d) k (by omega)
    unfold memTo
    rw [Bool.or_eq_true, ih, decide_eq_true_iff]
    refine ⟨?_, ?_⟩
    · rintro (⟨i, hi, e⟩ | e)
      · exact ⟨i, by omega, e⟩
      · exact ⟨k, by omega, e⟩
    · rintro ⟨i, hi, e⟩
      by_cases h : i = k
      · subst h; exact .inr e
      · exact .inl ⟨i, by omega, e⟩
theorem memTo_mem {q : List (Int × Int)} {d : Int × Int} : memTo q d q.length = true ↔ d ∈ q := by
  rw [memTo_iff _ (Nat.le_refl _)]
  refine ⟨?_, mem_at11⟩
  rintro ⟨i, hi, e⟩
  rw [← e, List.getD_eq_getElem?_getD, List.getElem?_eq_getElem hi]
  exact List.getElem_mem hi
theorem dedTo_mem {n : Int} {l : List (Int × Int)} {x : Int × Int} : ∀ i, (x ∈ dedTo n l i ↔ ∃ j, j < i ∧ x = redD n l (l.getD j (0, 0)))
  | 0 => ⟨fun h => (by cases h), fun ⟨j, hj, _⟩ => absurd hj (Nat.not_lt_zero _)⟩
  | i + 1 => by
    have ih := dedTo_mem (n := n) (l := l) (x := x) i
    have step : x ∈ dedTo n l (i + 1) ↔ x ∈ dedTo n l i ∨ x = redD n l (l.getD i (0, 0)) := by
      have e : dedTo n l (i + 1) = if memTo (dedTo n l i) (redD n l (l.getD i (0, 0))) (dedTo n l i).length = true then dedTo n l i else dedTo n l i ++ [redD n l (l.getD i (0, 0))] := rfl
      rw [e]
      cases hm : memTo (dedTo n l i) (redD n l (l.getD i (0, 0))) (dedTo n l i).length with
      | true =>
        rw [if_pos rfl]
        exact ⟨fun h => .inl h, fun h => h.elim id (fun e => by rw [e]; exact memTo_mem.1 hm)⟩
      | false =>
        rw [if_neg (by decide), List.mem_append, List.mem_singleton]
    rw [step, ih]
    refine ⟨?_, ?_⟩
    · rintro (⟨j, hj, e⟩ | e)
      · exact ⟨j, by omega, e⟩
      · exact ⟨i, by omega, e⟩
    · rintro ⟨j, hj, e⟩
      by_cases h : j = i
      · subst h; exact .inr e
      · exact .inl ⟨j, by omega, e⟩
/-- A dependency of the list, and what is left of it. -/
theorem red_of {C : Nat} {l : List (Int × Int)} (hC : C ≤ 5) (ha : arD (C : Int) l = true) (hl : DepsN C l) {j : Nat} (hj : j < l.length) : ∃ L R : Nat, l.getD j (0, 0) = ((L : Int), (R : Int)) ∧ L < 2 ^ C ∧ L < 32 ∧ R < C ∧ bitB (clo l L) R = true ∧ redD (C : Int) l (l.getD j (0, 0)) = (((redN l R L 5 : Nat) : Int), (R : Int)) := by
  obtain ⟨L, R, e, hL, hR⟩ := hl _ (memD hj)
  have h32 := two5 hC
  have hL32 : L < 32 := by omega
  obtain ⟨-, h2, -, h4, -⟩ := clo_spec hC hl hL32
  have hb : bitB (clo l L) R = true := by
    have h := h4 _ (memD hj)
    rw [e] at h
    exact h h2
  have hdp : depB (C : Int) (L : Int) (R : Int) = true := by
    unfold arD at ha
    rw [Bool.and_eq_true, List.all_eq_true] at ha
    have h := ha.1 _ (memD hj)
    rw [e] at h
    exact h
  have himp : impB (C : Int) l ((L : Int), (R : Int)) = true := by
    unfold impB
    rw [Bool.and_eq_true, Bool.and_eq_true]
    exact ⟨ha, hdp, hb⟩
  refine ⟨L, R, e, hL, hL32, hR, hb, ?_⟩
  rw [e]
  unfold redD
  rw [if_pos himp]
  rfl
end Go.Proofs.YtnbjcelfdppkcadGreat
namespace Go.Proofs.YtnbjcelfdppkcadGreat
open Go.RowKit

theorem brd_len (g : Nat → Bool) : ∀ n, (brdTo g n).length ≤ n
  | 0 => Nat.le_refl _
  | n + 1 => by
    have ih := brd_len g n
    have h : brdTo g (n + 1) = if g n = true then brdTo g n ++ [(n : Int)] else brdTo g n := rfl
    rw [h]
    split
    · rw [List.length_append]; simp; omega
    · omega
theorem clsL_len (n : Int) (l : List (Int × Int)) : (clsL n l).length ≤ 32 := by
  unfold clsL
  split
  · rename_i h
    obtain ⟨C, rfl, -, hC, -⟩ := arD_n h
    exact Nat.le_trans (brd_len _ _) (two5 hC)
  · exact Nat.zero_le _
section
set_option maxRecDepth 20000
set_option maxHeartbeats 3200000
theorem closedSets10_any (v : Value) (n : Int) (l : List (Int × Int)) (w : World) (hr : ReadD w v l) (hl : l.length ≤ 1048576) :
    Calls Tryz.prog 25 #[.int .i64 n, v] w (RetI (clsL n l) w) := by
  obtain ⟨i0, hi, hz0, hz1, hz2⟩ := info_parts info3i
  have HI : Hid (_ ∧ _ ∧ _ ∧ _) := Lib.hid ⟨hi, hz0, hz1, hz2⟩
  clear hi hz0 hz1 hz2
  have HAD := Lib.hid (fun w' (hb : Below w.heap.size w w') => areDeps10_any v n l w' (hr.kept hb) hl)
  have ho0 : OwnI (w.alloc (.cells #[] 3)) w.heap.size (.slice (some ⟨w.heap.size, 0, none⟩) 0 0) [] := OwnI.made (World.ownsRow_made w #[] 0 (Nat.le_refl _) (by unfold maxLen; omega) rfl)
  have hb0 := (Below.refl w.heap.size w).alloc (Nat.le_refl _) (.cells #[] 3)
  cases ha : arD n l with
  | false =>
    rw [ha] at HAD
    have HE : Hid (clsL n l = []) := Lib.hid (by unfold clsL; rw [ha]; rfl)
    obtain ⟨a, cap, rfl, -⟩ := hr
    clear ha
    go_enter Tryz.func25, Tryz.ntmps25
    go_wp2_with fail
    go_loopw [5, 6] (fun ov xv wr => ov = .slice (some ⟨w.heap.size, 0, none⟩) 0 0 ∧ xv = .int .i64 0 ∧ wr = w.alloc (.cells #[] 3)) (fun _ _ _ => 0)
    case atStart => exact ⟨rfl, rfl, rfl⟩
    case round =>
      obtain ⟨rfl, rfl, rfl⟩ := hrel
      have HO := Lib.hid ho0
      have HB := Lib.hid hb0
      have HQ := Lib.hid (HAD.out _ hb0)
      clear ho0 hb0
      go_wp2_with fail
      refine HQ.out.mono ?_
      rintro e w2 ⟨rfl, b2⟩
      have HO2 := Lib.hid (HO.out.kept b2 (fun k hk => (OwnI.lt HO.out k hk).2))
      have HB2 := Lib.hid (HB.out.trans (b2.mono HB.out.size))
      clear b2
      go_wp2_with fail
      go_ret
      exact ⟨_, rfl, by rw [HE.out]; exact HO2.out, HB2.out⟩
  | true =>
    rw [ha] at HAD
    obtain ⟨C, rfl, hC1, hC5, -, hd⟩ := arD_n ha
    have HE : Hid (clsL (C : Int) l = brdTo (clB l) (2 ^ C)) := Lib.hid (by unfold clsL; rw [ha]; rfl)
    have HC := Lib.hid (fun (x : Nat) (hx : x < 32) w' (hb : Below w.heap.size w w') => close10_any C hC5 v l hd x hx w' (hr.kept hb) hl)
    have HCL := Lib.hid (fun (x : Nat) (hx : x < 32) => clo_cl hC5 hd hx)
    have HBS : Hid (∀ x : Nat, brdTo (clB l) (x + 1) = if clB l x = true then brdTo (clB l) x ++ [(x : Int)] else brdTo (clB l) x) := Lib.hid (fun _ => rfl)
    have HBL := Lib.hid (brd_len (clB l))
    obtain ⟨M, hM, hM31, hMZ⟩ : ∃ M : Nat, M + 1 = 2 ^ C ∧ M ≤ 31 ∧ ((2 : Int) ^ C - 1) = (M : Int) := by
      have h32 := two5 hC5
      have hp : 0 < 2 ^ C := Nat.pow_pos (by omega)
      have hz : ((2 ^ C : Nat) : Int) = (2 : Int) ^ C := by rw [Int.natCast_pow]; rfl
      exact ⟨2 ^ C - 1, by omega, by omega, by omega⟩
    have HAL : Hid (∀ w', Calls Tryz.prog 26 #[.int .i64 (C : Int)] w' fun e w'' => e = .returned (.int .i64 (M : Int)) ∧ w' = w'') := Lib.hid (fun w' => by have h := all_any (C : Int) w' (by omega) (by omega); rw [show ((C : Int)).toNat = C from rfl, hMZ] at h; exact h)
    rw [← hM] at HE
    have HO := Lib.hid ho0
    have HB := Lib.hid hb0
    obtain ⟨a, cap, rfl, -⟩ := hr
    clear ha hd ho0 hb0 hM hMZ
    go_enter Tryz.func25, Tryz.ntmps25
    go_wp2_with fail
    go_loopw [5, 6] (fun ov xv wr => ∃ x : Nat, x ≤ M + 1 ∧ xv = .int .i64 (x : Int) ∧ Hid (OwnI wr w.heap.size ov (brdTo (clB l) x)) ∧ Hid (Below w.heap.size w wr)) (fun _ xv _ => M + 1 - (intOf xv).toNat)
    case atStart => exact ⟨0, by omega, rfl, HO, HB⟩
    case round =>
      clear HO HB
      obtain ⟨x, hx, rfl, HO, HB⟩ := hrel
      obtain ⟨w3, hw⟩ : ∃ w', w' = wr := ⟨_, rfl⟩
      rw [← hw] at HO HB ⊢
      clear hw
      have HQ := Lib.hid (HAD.out _ HB.out)
      have hql := HBL.out x
      have hbs := HBS.out x
      obtain ⟨q, hq⟩ : ∃ q, q = brdTo (clB l) x := ⟨_, rfl⟩
      rw [← hq] at HO hql hbs
      have z0 : (0 : Int) ≤ (x : Int) := by omega
      by_cases hlt : x ≤ M
      · have z1 : (x : Int) ≤ (M : Int) := by omega
        have hcl := HCL.out x (by omega)
        have HCX := Lib.hid (HC.out x (by omega))
        obtain ⟨y, hy⟩ : ∃ y, y = clo l x := ⟨_, rfl⟩
        rw [← hy] at hcl HCX
        have hyz : ((y : Int) == (x : Int)) = (y == x) := by rw [Bool.eq_iff_iff, beq_iff_eq, beq_iff_eq]; omega
        rw [hcl] at hyz
        have HBSX := Lib.hid hbs
        clear hq hy hcl hbs
        go_wp2_with fail
        refine HQ.out.mono ?_
        rintro e w4 ⟨rfl, b4⟩
        have HO4 := Lib.hid (HO.out.kept b4 (fun k hk => (OwnI.lt HO.out k hk).2))
        have HB4 := Lib.hid (HB.out.trans (b4.mono HB.out.size))
        clear b4
        go_wp2_with fail
        refine (HAL.out _).mono ?_
        rintro e w' ⟨rfl, rfl⟩
        go_wp2_with fail
        refine (HCX.out _ HB4.out).mono ?_
        rintro e w5 ⟨rfl, b5⟩
        have HO5 := Lib.hid (HO4.out.kept b5 (fun k hk => (OwnI.lt HO4.out k hk).2))
        have HB5 := Lib.hid (HB4.out.trans (b5.mono HB4.out.size))
        clear b5
        cases hc : clB l x with
        | true =>
          rw [hc] at hyz HBSX
          have ho6 := HO5.out
          clear hc
          go_wp2_with (at_builtin; refine wpList_append_own _ rfl _ _ 40 rfl w.heap.size 3 i0 (.int .i64 0) 1 8 Tryz.underlying40 HI.out.1 HI.out.2.1 HI.out.2.2.1 HI.out.2.2.2 rfl (by decide) _ _ _ rfl (World.ownsRow.alloc ho6 _) ⟨w5.heap.size, 0, none⟩ 1 1 [.int .i64 (x : Int)] rfl rfl (cell_one_new _ _ _) (one_i64 _) (by unfold maxLen; omega) (by omega) (by have := HB5.out.size; simp; omega) ?_; intro v7 w7 hown7 hgrow7 _; have HO7 := Lib.hid (OwnI.snoc hown7); have HB7 := Lib.hid ((HB5.out.alloc HB5.out.size (.cells #[.int .i64 (x : Int)] 3)).grown hgrow7 (by rw [World.size_alloc]; have := HB5.out.size; omega) (fun k hk => (OwnI.lt HO5.out k hk).1)); clear hown7 hgrow7 ho6)
          go_roundw
          case rel => exact ⟨x + 1, by omega, by go_num, by rw [HBSX.out, if_pos (by first | trivial | rfl)]; exact HO7, HB7⟩
          case measure => simp [intOf]; omega
        | false =>
          rw [hc] at hyz HBSX
          clear hc
          go_wp2_with fail
          go_roundw
          case rel => exact ⟨x + 1, by omega, by go_num, by rw [HBSX.out, if_neg (by decide)]; exact HO5, HB5⟩
          case measure => simp [intOf]; omega
      · obtain rfl : x = M + 1 := by omega
        rw [hq] at HO
        have zM : ¬ (((M + 1 : Nat) : Int) ≤ (M : Int)) := by omega
        clear hq hql hbs
        go_wp2_with fail
        refine HQ.out.mono ?_
        rintro e w4 ⟨rfl, b4⟩
        have HO4 := Lib.hid (HO.out.kept b4 (fun k hk => (OwnI.lt HO.out k hk).2))
        have HB4 := Lib.hid (HB.out.trans (b4.mono HB.out.size))
        clear b4
        go_wp2_with fail
        refine (HAL.out _).mono ?_
        rintro e w' ⟨rfl, rfl⟩
        go_wp2_with fail
        go_ret
        exact ⟨_, rfl, by rw [HE.out]; exact HO4.out, HB4.out⟩
end
end Go.Proofs.YtnbjcelfdppkcadGreat
