/- Texts of this claim, merged: MvB, TrB, TrC, TrK. Conditions: as stated. -/
import Derived.Test.YtnbjcelfdppkcaaGreatTc21
import Derived.Test.YtnbjcelfdppkcaaGreatTc20
import Derived.Test.YtnbjcelfdppkcaaGreatTc18
import Derived.Test.YtnbjcelfdppkcaaGreatTc16
import Derived.Maps.AppendAt
import Derived.Test.YtnbjcelfdppkcaaGreatTc13
import Derived.Test.YtnbjcelfdppkcaaGreatTc19
namespace Go.Proofs.YtnbjcelfdppkcaaGreat
open Go.RowKit

noncomputable def imB (c : Int) (ll : List (List Int)) (m l r : Int) : Bool := okD c ll m l r && minN c.toNat ll m l.toNat r.toNat
theorem depB_small {c l r : Int} (h : depB c l r = true) : ∃ C L R : Nat, c = (C : Int) ∧ l = (L : Int) ∧ r = (R : Int) ∧ 1 ≤ C ∧ C ≤ 5 ∧ L < 2 ^ C ∧ L < 32 ∧ R < C := by
  obtain ⟨⟨h1, h5⟩, ha, h0, hr⟩ := depB_iff.1 h
  unfold isA at ha
  rw [decide_eq_true_iff] at ha
  obtain ⟨-, l0, l1⟩ := ha
  have e : ((2 ^ c.toNat : Nat) : Int) = (2 : Int) ^ c.toNat := by rw [Int.natCast_pow]; rfl
  have h32 := two5 (C := c.toNat) (by omega)
  exact ⟨c.toNat, l.toNat, r.toNat, by omega, by omega, by omega, by omega, by omega, by omega, by omega, by omega⟩
section
set_option maxRecDepth 20000
set_option maxHeartbeats 1600000
/-- No two rows agree in all of the set's columns. -/
def uniqB (c : Int) (ll : List (List Int)) (m s : Int) : Bool := fineT c ll m && isA c s && decide ((clSt c.toNat ll m s ll.length).1.length = 0)
theorem isUnique_any (c m s : Int) (v : Value) (ll : List (List Int)) (w : World) (hr : ReadSS w v ll) (hl : ll.length ≤ 1048576) (ht : ∀ i, i < ll.length → (ll.getD i []).length ≤ 1048576) :
    Calls Tryz.prog 13 #[.agg #[.int .i64 c, v], .int .i64 m, .int .i64 s] w fun e w' => e = .returned (.bool (uniqB c ll m s)) ∧ Below w.heap.size w w' := by
  have hb1 := (Below.refl w.heap.size w).alloc (Nat.le_refl _) (.cells #[.int .i64 c, v] 26)
  have HF := Lib.hid (fun w' (hb : Below w.heap.size w w') => l4Fine_any c m v ll w' (hr.kept hb) hl ht)
  have HA := Lib.hid (fun w' => isA_any c s w')
  have HC := Lib.hid (fun w' (hb : Below w.heap.size w w') (hT : isT c ll = true) => classes5_any c m s v ll w' (hr.kept hb) hT)
  have HB1 := Lib.hid hb1
  obtain ⟨c0, c1⟩ := zero2 w 26 (.int .i64 c) v
  obtain ⟨a, cap, rfl, -⟩ := hr
  clear hb1 ht
  cases hf : fineT c ll m with
  | false =>
    have HE : Hid (uniqB c ll m s = false) := Lib.hid (by unfold uniqB; rw [hf]; rfl)
    rw [hf] at HF
    clear hf
    go_enter Tryz.func13, Tryz.ntmps13
    go_wp2_with fail
    refine (HF.out _ HB1.out).mono ?_
    rintro e w1 ⟨rfl, b1⟩
    have hb2 := HB1.out.trans (b1.mono HB1.out.size)
    go_wp2_with fail
    go_ret
    exact ⟨by rw [HE.out]; rfl, hb2⟩
  | true =>
    rw [hf] at HF
    cases ha : isA c s with
    | false =>
      have HE : Hid (uniqB c ll m s = false) := Lib.hid (by unfold uniqB; rw [ha]; simp)
      rw [ha] at HA
      clear hf ha
      go_enter Tryz.func13, Tryz.ntmps13
      go_wp2_with fail
      refine (HF.out _ HB1.out).mono ?_
      rintro e w1 ⟨rfl, b1⟩
      have hb2 := HB1.out.trans (b1.mono HB1.out.size)
      replace c0 := (b1.cell (World.block_lt_of_cell? _ _ c0)).trans c0
      replace c1 := (b1.cell (World.block_lt_of_cell? _ _ c1)).trans c1
      clear b1
      go_wp2_with fail
      refine (HA.out _).mono ?_
      rintro e w2 ⟨rfl, rfl⟩
      go_wp2_with fail
      go_ret
      exact ⟨by rw [HE.out]; rfl, hb2⟩
    | true =>
      rw [ha] at HA
      have hT := fineT_isT hf
      have HQ := Lib.hid (fun w' hb => HC.out w' hb hT)
      have hE : uniqB c ll m s = decide ((clSt c.toNat ll m s ll.length).1.length = 0) := by unfold uniqB; rw [hf, ha]; rfl
      obtain ⟨P, hP⟩ : ∃ P, P = (clSt c.toNat ll m s ll.length).1 := ⟨_, rfl⟩
      rw [← hP] at HQ hE
      obtain ⟨qb, hqb⟩ : ∃ qb, qb = decide (P.length = 0) := ⟨_, rfl⟩
      rw [← hqb] at hE
      have HE := Lib.hid hE
      have hq : ((P.length : Int) == 0) = qb := by rw [hqb, Bool.eq_iff_iff, beq_iff_eq, decide_eq_true_iff]; omega
      clear hqb
      clear hf ha hT hP hE HC
      go_enter Tryz.func13, Tryz.ntmps13
      go_wp2_with fail
      refine (HF.out _ HB1.out).mono ?_
      rintro e w1 ⟨rfl, b1⟩
      have hb2 := HB1.out.trans (b1.mono HB1.out.size)
      replace c0 := (b1.cell (World.block_lt_of_cell? _ _ c0)).trans c0
      replace c1 := (b1.cell (World.block_lt_of_cell? _ _ c1)).trans c1
      clear b1
      go_wp2_with fail
      refine (HA.out _).mono ?_
      rintro e w2 ⟨rfl, rfl⟩
      go_wp2_with fail
      refine (HQ.out _ hb2).mono ?_
      rintro e w3 ⟨vp, rfl, op, b3⟩
      have hb3 := hb2.trans (b3.mono hb2.size)
      obtain ⟨ap, capp, rfl, -⟩ := op.read
      clear b3 op
      go_wp2_with fail
      go_ret
      exact ⟨ret_b HE.out, hb3⟩
end
/-- The border; the keys. -/
noncomputable def vbL (c : Int) (ll : List (List Int)) (m q : Int) : List Int := if fineT c ll m = true ∧ 0 ≤ q ∧ q < c then brdL c.toNat ll m q.toNat else []
def mkL (c : Int) (ll : List (List Int)) (m : Int) : List Int := minS (if fineT c ll m = true then brdTo (fun x => uniqB c ll m (x : Int)) (2 ^ c.toNat) else [])
noncomputable def mdL (c : Int) (ll : List (List Int)) (m : Int) : List (Int × Int) := if fineT c ll m = true then minD c.toNat ll m else []
noncomputable def apL (c : Int) (ll : List (List Int)) (m rows : Int) : List (Int × Int) := if fineT c ll m = true ∧ 0 ≤ rows then appD c.toNat ll m rows else []
theorem mdL_len (c : Int) (ll : List (List Int)) (m : Int) : (mdL c ll m).length ≤ 160 := by
  unfold mdL
  split
  · rename_i h
    have := isT_bd (fineT_isT h)
    exact minD_len (by omega)
  · simp
theorem mdIn_succ (f : Int → Nat → Bool) (ps : List Int) (r : Nat) (l0 : List (Int × Int)) (i : Nat) : mdIn f ps r l0 (i + 1) = if f (ps.getD i 0) r = true then mdIn f ps r l0 i ++ [(ps.getD i 0, (r : Int))] else mdIn f ps r l0 i := rfl
section
set_option maxRecDepth 20000
set_option maxHeartbeats 3200000
end
end Go.Proofs.YtnbjcelfdppkcaaGreat
namespace Go.Proofs.YtnbjcelfdppkcaaGreat
open Go.RowKit

/-- The columns in which rows a and b agree. -/
def agX (C : Nat) (ll : List (List Int)) (m : Int) (a b : Nat) : Nat := (agrTo m (ll.getD a []) (ll.getD b []) C).toNat
theorem agX_eq {C : Nat} (hC : C ≤ 5) (ll : List (List Int)) (m : Int) (a b : Nat) : agrTo m (ll.getD a []) (ll.getD b []) C = (agX C ll m a b : Int) ∧ agX C ll m a b < 2 ^ C ∧ agX C ll m a b < 32 ∧ ∀ j, j < 5 → bitB (agX C ll m a b) j = (decide (j < C) && eqC m ((ll.getD a []).getD j 0) ((ll.getD b []).getD j 0)) := by
  obtain ⟨X, h1, h2, h3, h4⟩ := agrTo_bit m (ll.getD a []) (ll.getD b []) C hC
  unfold agX
  rw [h1]
  exact ⟨rfl, h2, h3, h4⟩
theorem agIn_mem9 (c : Nat) (ll : List (List Int)) (m : Int) (i : Nat) (l0 : List Int) (y : Int) : ∀ n, (y ∈ agIn c ll m i l0 n ↔ y ∈ l0 ∨ ∃ t, t < n ∧ y = agrTo m (ll.getD i []) (ll.getD (i + 1 + t) []) c)
  | 0 => by simp [agIn]
  | n + 1 => by
    have ih := agIn_mem9 c ll m i l0 y n
    unfold agIn
    rw [put4_mem, ih]
    constructor
    · rintro (h | h | ⟨t, h1, h2⟩)
      · exact Or.inr ⟨n, by omega, h⟩
      · exact Or.inl h
      · exact Or.inr ⟨t, by omega, h2⟩
    · rintro (h | ⟨t, h1, h2⟩)
      · exact Or.inr (Or.inl h)
      · by_cases e : t = n
        · subst e; exact Or.inl h2
        · exact Or.inr (Or.inr ⟨t, by omega, h2⟩)
theorem agOut_mem9 (c : Nat) (ll : List (List Int)) (m : Int) (y : Int) : ∀ i, i ≤ ll.length → (y ∈ agOut c ll m i ↔ ∃ a b, a < i ∧ a < b ∧ b < ll.length ∧ y = agrTo m (ll.getD a []) (ll.getD b []) c)
  | 0, _ => by simp [agOut]
  | i + 1, hi => by
    have ih := agOut_mem9 c ll m y i (by omega)
    unfold agOut
    rw [agIn_mem9, ih]
    constructor
    · rintro (⟨a, b, h1, h2, h3, h4⟩ | ⟨t, h1, h2⟩)
      · exact ⟨a, b, by omega, h2, h3, h4⟩
      · exact ⟨i, i + 1 + t, by omega, by omega, by omega, h2⟩
    · rintro ⟨a, b, h1, h2, h3, h4⟩
      by_cases e : a = i
      · subst e
        refine Or.inr ⟨b - (a + 1), by omega, ?_⟩
        rw [show a + 1 + (b - (a + 1)) = b by omega]
        exact h4
      · exact Or.inl ⟨a, b, by omega, h2, h3, h4⟩
theorem agIn_asc9 (c : Nat) (ll : List (List Int)) (m : Int) (i : Nat) (l0 : List Int) (h0 : AscI l0) : ∀ n, AscI (agIn c ll m i l0 n)
  | 0 => h0
  | n + 1 => by unfold agIn; exact put4_asc (agIn_asc9 c ll m i l0 h0 n) _
theorem agOut_asc9 (c : Nat) (ll : List (List Int)) (m : Int) : ∀ i, AscI (agOut c ll m i)
  | 0 => List.Pairwise.nil
  | i + 1 => by unfold agOut; exact agIn_asc9 c ll m i _ (agOut_asc9 c ll m i) _
theorem agrS_mem9 {C : Nat} {ll : List (List Int)} {m : Int} (hf : fineT (C : Int) ll m = true) (hC : C ≤ 5) (y : Int) : y ∈ agrS (C : Int) ll m ↔ ∃ a b, a < b ∧ b < ll.length ∧ y = (agX C ll m a b : Int) := by
  unfold agrS
  rw [if_pos hf, show ((C : Int)).toNat = C from rfl, agOut_mem9 _ _ _ _ _ (Nat.le_refl _)]
  constructor
  · rintro ⟨a, b, h1, h2, h3, h4⟩
    exact ⟨a, b, h2, h3, by rw [h4]; exact (agX_eq hC ll m a b).1⟩
  · rintro ⟨a, b, h2, h3, h4⟩
    exact ⟨a, b, by omega, h2, h3, by rw [h4]; exact (agX_eq hC ll m a b).1.symm⟩
theorem difTo_mem9 (C Q : Nat) (l : List Int) (y : Int) : ∀ i, (y ∈ difTo C Q l i ↔ ∃ t, t < i ∧ difB Q (l.getD t 0) = true ∧ y = difV C Q (l.getD t 0))
  | 0 => by simp [difTo]
  | i + 1 => by
    have ih := difTo_mem9 C Q l y i
    unfold difTo
    constructor
    · intro h
      split at h
      · rename_i hb
        rcases (put4_mem _ _ _).1 h with h | h
        · exact ⟨i, by omega, hb, h⟩
        · obtain ⟨t, h1, h2⟩ := ih.1 h
          exact ⟨t, by omega, h2⟩
      · obtain ⟨t, h1, h2⟩ := ih.1 h
        exact ⟨t, by omega, h2⟩
    · rintro ⟨t, h1, h2, h3⟩
      by_cases e : t = i
      · subst e
        rw [if_pos h2]
        exact (put4_mem _ _ _).2 (.inl h3)
      · have := ih.2 ⟨t, by omega, h2, h3⟩
        split
        · exact (put4_mem _ _ _).2 (.inr this)
        · exact this
theorem difTo_asc9 (C Q : Nat) (l : List Int) : ∀ i, AscI (difTo C Q l i)
  | 0 => List.Pairwise.nil
  | i + 1 => by
    unfold difTo
    split
    · exact put4_asc (difTo_asc9 C Q l i) _
    · exact difTo_asc9 C Q l i
/-- What is left of a set of columns, of an agree set. -/
def dvN (C q x : Nat) : Nat := (difV C q (x : Int)).toNat
theorem dv_fin : ∀ (C : Fin 6) (q : Fin 5) (x : Fin 32), difV C.val q.val ((x.val : Nat) : Int) = ((dvN C.val q.val x.val : Nat) : Int) ∧ dvN C.val q.val x.val < 2 ^ C.val ∧ ∀ j : Fin 5, bitB (dvN C.val q.val x.val) j.val = (decide (j.val < C.val) && decide (j.val ≠ q.val) && !bitB x.val j.val) := by decide +kernel
theorem difS_mem9 {C q : Nat} {ll : List (List Int)} {m : Int} (hf : fineT (C : Int) ll m = true) (hC : C ≤ 5) (hq : q < C) (y : Int) : y ∈ difS (C : Int) ll m (q : Int) ↔ ∃ a b, a < b ∧ b < ll.length ∧ bitB (agX C ll m a b) q = false ∧ y = (dvN C q (agX C ll m a b) : Int) := by
  unfold difS
  rw [if_pos (by omega), show ((C : Int)).toNat = C from rfl, show ((q : Int)).toNat = q from rfl, difTo_mem9]
  have hb : ∀ X : Nat, difB q (X : Int) = !bitB X q := fun X => bit_zero X q
  have hv : ∀ a b, difV C q (agX C ll m a b : Int) = (dvN C q (agX C ll m a b) : Int) := fun a b => (dv_fin ⟨C, by omega⟩ ⟨q, by omega⟩ ⟨_, (agX_eq hC ll m a b).2.2.1⟩).1
  constructor
  · rintro ⟨t, h1, h2, h3⟩
    obtain ⟨a, b, k1, k2, k3⟩ := (agrS_mem9 hf hC _).1 (mem_getD.2 ⟨t, h1, rfl⟩)
    rw [k3, hb, Bool.not_eq_true'] at h2
    rw [k3, hv] at h3
    exact ⟨a, b, k1, k2, h2, h3⟩
  · rintro ⟨a, b, k1, k2, h2, rfl⟩
    obtain ⟨t, h1, e⟩ := mem_getD.1 ((agrS_mem9 hf hC _).2 ⟨a, b, k1, k2, rfl⟩)
    exact ⟨t, h1, by rw [← e, hb, h2]; rfl, by rw [← e, hv]⟩
/-- x hits all difference sets of column q. -/
theorem dif_hit {C q x : Nat} {ll : List (List Int)} {m : Int} (hf : fineT (C : Int) ll m = true) (hC : C ≤ 5) (hq : q < C) (hx : x < 32) :
    (∀ y ∈ difS (C : Int) ll m (q : Int), hitI y (x : Int) = true) ↔ ∀ a b, a < b → b < ll.length → bitB (agX C ll m a b) q = false → ∃ j, j < C ∧ j ≠ q ∧ bitB x j = true ∧ bitB (agX C ll m a b) j = false := by
  have h32 := two5 hC
  have key : ∀ a b, hitI (dvN C q (agX C ll m a b) : Int) (x : Int) = true ↔ ∃ j, j < C ∧ j ≠ q ∧ bitB x j = true ∧ bitB (agX C ll m a b) j = false := by
    intro a b
    obtain ⟨-, d2, d3⟩ := dv_fin ⟨C, by omega⟩ ⟨q, by omega⟩ ⟨_, (agX_eq hC ll m a b).2.2.1⟩
    simp only at d2 d3
    rw [hit_iff (by omega) hx]
    constructor
    · rintro ⟨j, hj, h1, h2⟩
      have h := d3 ⟨j, hj⟩
      simp only at h
      rw [h, Bool.and_eq_true, Bool.and_eq_true, decide_eq_true_iff, decide_eq_true_iff, Bool.not_eq_true'] at h1
      exact ⟨j, h1.1.1, h1.1.2, h2, h1.2⟩
    · rintro ⟨j, h1, h2, h3, h4⟩
      have h := d3 ⟨j, by omega⟩
      simp only at h
      refine ⟨j, by omega, ?_, h3⟩
      rw [h, decide_eq_true h1, decide_eq_true h2, h4]
      rfl
  constructor
  · intro h a b hab hb hX
    exact (key a b).1 (h _ ((difS_mem9 hf hC hq _).2 ⟨a, b, hab, hb, hX, rfl⟩))
  · intro h y hy
    obtain ⟨a, b, hab, hb, hX, rfl⟩ := (difS_mem9 hf hC hq y).1 hy
    exact (key a b).2 (h a b hab hb hX)
theorem ag_bits {C x : Nat} {ll : List (List Int)} {m : Int} (hC : C ≤ 5) (hx : x < 2 ^ C) (a b : Nat) : agB C ll m (x : Int) a b = true ↔ ∀ j, j < C → bitB x j = true → bitB (agX C ll m a b) j = true := by
  rw [agB_iff C ll m x a b hC hx]
  obtain ⟨-, -, -, h4⟩ := agX_eq hC ll m a b
  constructor
  · intro h j hj hb
    rw [h4 j (by omega), decide_eq_true hj, h j hj hb]
    rfl
  · intro h j hj hb
    have := h j hj hb
    rw [h4 j (by omega), decide_eq_true hj, Bool.true_and] at this
    exact this
theorem dif_holds {C q x : Nat} {ll : List (List Int)} {m : Int} (hf : fineT (C : Int) ll m = true) (hC : C ≤ 5) (hq : q < C) (hx : x < 2 ^ C) (hb : bitB x q = false) :
    (∀ y ∈ difS (C : Int) ll m (q : Int), hitI y (x : Int) = true) ↔ HoldsAll C ll m x q := by
  have h32 := two5 hC
  rw [dif_hit hf hC hq (by omega)]
  unfold HoldsAll
  constructor
  · intro h i k hik hk hag
    rw [agB_one hC hq]
    show bitB (agX C ll m i k) q = true
    cases hX : bitB (agX C ll m i k) q with
    | true => rfl
    | false =>
      obtain ⟨j, h1, h2, h3, h4⟩ := h i k hik hk hX
      rw [(ag_bits hC hx i k).1 hag j h1 h3] at h4
      cases h4
  · intro h a b hab hbl hX
    refine Classical.byContradiction fun hno => ?_
    have hag : agB C ll m (x : Int) a b = true := (ag_bits hC hx a b).2 fun j hj hbj => by
      cases hc : bitB (agX C ll m a b) j with
      | true => rfl
      | false => exact absurd ⟨j, hj, (fun e => by rw [e, hb] at hbj; exact Bool.noConfusion hbj), hbj, hc⟩ hno
    have := h a b hab hbl hag
    rw [agB_one hC hq] at this
    have h' : bitB (agX C ll m a b) q = true := this
    rw [hX] at h'
    cases h'
theorem all_low : ∀ (C : Fin 6) (S : Fin 32), (∀ j : Fin 5, bitB S.val j.val = true → j.val < C.val) → S.val < 2 ^ C.val := by decide +kernel
theorem drop_bits : ∀ (S : Fin 32) (i j : Fin 5), bitB S.val i.val = true → j ≠ i → bitB (S.val - 2 ^ i.val) j.val = bitB S.val j.val := by decide +kernel
/-- The smallest sets that hit the difference sets of a column are the minimal left sides. -/
theorem dif_least {C q S : Nat} {ll : List (List Int)} {m : Int} (hf : fineT (C : Int) ll m = true) (hC : C ≤ 5) (hq : q < C) (hS : S < 32) :
    LeastN (fun x => ∀ y ∈ difS (C : Int) ll m (q : Int), hitI y (x : Int) = true) S ↔ S < 2 ^ C ∧ minN C ll m S q = true := by
  have h32 := two5 hC
  have hdrop : ∀ i, i < 5 → bitB S i = true → (i = q ∨ C ≤ i) → (∀ y ∈ difS (C : Int) ll m (q : Int), hitI y (S : Int) = true) → ∀ y ∈ difS (C : Int) ll m (q : Int), hitI y ((S - 2 ^ i : Nat) : Int) = true := by
    intro i hi hbi hout h
    rw [dif_hit hf hC hq hS] at h
    rw [dif_hit hf hC hq (Nat.lt_of_le_of_lt (Nat.sub_le _ _) hS)]
    intro a b hab hb hX
    obtain ⟨j, h1, h2, h3, h4⟩ := h a b hab hb hX
    have hne : (⟨j, by omega⟩ : Fin 5) ≠ ⟨i, hi⟩ := fun e => by have := Fin.mk.inj e; omega
    exact ⟨j, h1, h2, (drop_bits ⟨S, hS⟩ ⟨i, hi⟩ ⟨j, by omega⟩ hbi hne).trans h3, h4⟩
  constructor
  · rintro ⟨h1, h2⟩
    have hq0 : bitB S q = false := by
      cases hc : bitB S q with
      | false => rfl
      | true => exact absurd (hdrop q (by omega) hc (.inl rfl) h1) (h2 q (by omega) hc)
    have hlow : S < 2 ^ C := all_low ⟨C, by omega⟩ ⟨S, hS⟩ fun j hj => by
      refine Classical.byContradiction fun hn => ?_
      exact h2 j.val j.isLt hj (hdrop j.val j.isLt hj (.inr (by simp only at hn; omega)) h1)
    refine ⟨hlow, (minN_iff hC hq hlow).2 ⟨hq0, (dif_holds hf hC hq hlow hq0).1 h1, fun j hj hb hh => ?_⟩⟩
    have hl2 : S - 2 ^ j < 2 ^ C := Nat.lt_of_le_of_lt (Nat.sub_le _ _) hlow
    have hq2 : bitB (S - 2 ^ j) q = false := by
      by_cases e : q = j
      · subst e; rw [hb] at hq0; cases hq0
      · rw [drop_bits ⟨S, hS⟩ ⟨j, hj⟩ ⟨q, by omega⟩ hb (fun e' => e (Fin.mk.inj e'))]; exact hq0
    exact h2 j hj hb ((dif_holds hf hC hq hl2 hq2).2 hh)
  · rintro ⟨hlow, hm⟩
    obtain ⟨hq0, h1, h2⟩ := (minN_iff hC hq hlow).1 hm
    refine ⟨(dif_holds hf hC hq hlow hq0).2 h1, fun j hj hb hh => ?_⟩
    have hl2 : S - 2 ^ j < 2 ^ C := Nat.lt_of_le_of_lt (Nat.sub_le _ _) hlow
    have hq2 : bitB (S - 2 ^ j) q = false := by
      by_cases e : q = j
      · subst e; rw [hb] at hq0; cases hq0
      · rw [drop_bits ⟨S, hS⟩ ⟨j, hj⟩ ⟨q, by omega⟩ hb (fun e' => e (Fin.mk.inj e'))]; exact hq0
    exact h2 j hj hb ((dif_holds hf hC hq hl2 hq2).1 hh)
end Go.Proofs.YtnbjcelfdppkcaaGreat
namespace Go.Proofs.YtnbjcelfdppkcaaGreat
open Go.RowKit

theorem hitTo_all (E : List Int) (x : Nat) : hitTo E x E.length = true ↔ ∀ y ∈ E, hitI y (x : Int) = true := by
  rw [hitTo_iff]
  constructor
  · intro h y hy
    obtain ⟨t, ht, rfl⟩ := mem_getD.1 hy
    exact h t ht
  · exact fun h t ht => h _ (mem_getD.2 ⟨t, ht, rfl⟩)
theorem isA_val {n x : Int} (h : isA n x = true) : valB x = true := by
  unfold isA at h
  unfold valB
  rw [decide_eq_true_iff] at *
  obtain ⟨⟨h1, h2⟩, h3, h4⟩ := h
  have h5 : (2 : Int) ^ n.toNat ≤ 32 := by
    rcases (show n.toNat = 0 ∨ n.toNat = 1 ∨ n.toNat = 2 ∨ n.toNat = 3 ∨ n.toNat = 4 ∨ n.toNat = 5 by omega) with e | e | e | e | e | e <;> rw [e] <;> decide
  omega
/-- Transversals of valid edges: the smallest sets that hit them. -/
theorem trL_eq {E : List Int} {n : Int} (h : (decide ((0 ≤ n ∧ n ≤ 5) ∧ E.length ≤ 100) && E.all (isA n)) = true) : trL E n = minS (brdTo (fun x => hitTo E x E.length) 32) := by
  unfold trL
  rw [if_pos h]
  rw [Bool.and_eq_true, List.all_eq_true] at h
  exact trTo_eq E E.length fun t ht => isA_val (h.2 _ (mem_getD.2 ⟨t, ht, rfl⟩))
theorem trL_least {E : List Int} {n : Int} (h : (decide ((0 ≤ n ∧ n ≤ 5) ∧ E.length ≤ 100) && E.all (isA n)) = true) (z : Int) : z ∈ trL E n ↔ ∃ x : Nat, x < 32 ∧ z = (x : Int) ∧ LeastN (fun x => ∀ y ∈ E, hitI y (x : Int) = true) x := by
  rw [trL_eq h, minS_brd _ (Nat.le_refl _)]
  have hv : ∀ y ∈ E, valB y = true := fun y hy => by
    rw [Bool.and_eq_true, List.all_eq_true] at h
    exact isA_val (h.2 y hy)
  have hup : UpN 32 (fun x => ∀ y ∈ E, hitI y (x : Int) = true) := fun a b ha hb hs h y hy => by
    obtain ⟨X, rfl, hX⟩ := valN (hv y hy)
    exact hit_up hX ha hb hs (h _ hy)
  constructor
  · rintro ⟨x, h1, h2, h3, h4⟩
    refine ⟨x, h1, h3, (least_iff (Nat.le_refl _) hup h1).2 ⟨(hitTo_all E x).1 h2, fun z hz hh hs => h4 z hz ((hitTo_all E z).2 hh) hs⟩⟩
  · rintro ⟨x, h1, h3, h4⟩
    obtain ⟨k1, k2⟩ := (least_iff (Nat.le_refl _) hup h1).1 h4
    exact ⟨x, h1, (hitTo_all E x).2 k1, h3, fun z hz hh hs => k2 z hz ((hitTo_all E z).1 hh) hs⟩
theorem isA_nat9 {C x : Nat} (hC : C ≤ 5) (hx : x < 2 ^ C) : isA (C : Int) (x : Int) = true := by
  unfold isA
  rw [decide_eq_true_iff, show ((C : Int)).toNat = C from rfl]
  have h : ((2 ^ C : Nat) : Int) = (2 : Int) ^ C := by rw [Int.natCast_pow]; rfl
  omega
theorem dif_fine {C q : Nat} {ll : List (List Int)} {m : Int} (hf : fineT (C : Int) ll m = true) (hC : C ≤ 5) (hq : q < C) : (decide ((0 ≤ (C : Int) ∧ (C : Int) ≤ 5) ∧ (difS (C : Int) ll m (q : Int)).length ≤ 100) && (difS (C : Int) ll m (q : Int)).all (isA (C : Int))) = true := by
  have hm : ∀ y ∈ difS (C : Int) ll m (q : Int), isA (C : Int) y = true := fun y hy => by
    obtain ⟨a, b, -, -, -, rfl⟩ := (difS_mem9 hf hC hq y).1 hy
    exact isA_nat9 hC (dv_fin ⟨C, by omega⟩ ⟨q, by omega⟩ ⟨_, (agX_eq hC ll m a b).2.2.1⟩).2.1
  have hl : (difS (C : Int) ll m (q : Int)).length ≤ 32 := by
    refine asc_len ?_ fun y hy => isA_val (hm y hy)
    unfold difS
    split
    · exact difTo_asc9 _ _ _ _
    · exact List.Pairwise.nil
  rw [Bool.and_eq_true, decide_eq_true_iff, List.all_eq_true]
  exact ⟨⟨by omega, by omega⟩, hm⟩
/-- The dependencies by transversals. -/
def dtL (c : Int) (ll : List (List Int)) (m : Int) : List (Int × Int) := if fineT c ll m = true then mdOut (fun S r => decide (S ∈ trL (difS c ll m (r : Int)) c)) (parts c) c.toNat else []
theorem dtL_eq (c : Int) (ll : List (List Int)) (m : Int) : dtL c ll m = mdL c ll m := by
  unfold dtL mdL
  by_cases hf : fineT c ll m = true
  · have hb := isT_bd (fineT_isT hf)
    obtain ⟨C, rfl⟩ : ∃ C : Nat, c = (C : Int) := ⟨c.toNat, by omega⟩
    have hC : C ≤ 5 := by omega
    have h32 := two5 hC
    rw [if_pos hf, if_pos hf, show ((C : Int)).toNat = C from rfl]
    unfold minD
    refine mdOut_same _ fun S hS r hr => ?_
    obtain ⟨x, hx, rfl⟩ := (parts_mem hC S).1 hS
    rw [show ((x : Int)).toNat = x from rfl, Bool.eq_iff_iff, decide_eq_true_iff, trL_least (dif_fine hf hC hr)]
    constructor
    · rintro ⟨y, h1, h2, h3⟩
      obtain rfl : x = y := by omega
      exact ((dif_least hf hC hr h1).1 h3).2
    · exact fun h => ⟨x, by omega, rfl, (dif_least hf hC hr (by omega)).2 ⟨hx, h⟩⟩
  · rw [if_neg hf, if_neg hf]
theorem rows_one (c : Nat) (ll : List (List Int)) (m s : Int) (i : Nat) : ∀ n, (∀ t, t < n → agB c ll m s i (i + 1 + t) = false) → rowsC c ll m s i n = [(i : Int)]
  | 0, _ => rfl
  | n + 1, h => by
    unfold rowsC
    rw [if_neg (by rw [h n (by omega)]; exact Bool.false_ne_true)]
    exact rows_one c ll m s i n fun t ht => h t (by omega)
/-- A set is unique if no two rows agree in it. -/
theorem uniq_iff {C x : Nat} {ll : List (List Int)} {m : Int} (hf : fineT (C : Int) ll m = true) (hC : C ≤ 5) (hx : x < 2 ^ C) : uniqB (C : Int) ll m (x : Int) = true ↔ ∀ a b, a < b → b < ll.length → agB C ll m (x : Int) a b = false := by
  have hb := isT_bd (fineT_isT hf)
  unfold uniqB
  rw [hf, isA_nat9 hC hx, Bool.true_and, Bool.true_and, decide_eq_true_iff, show ((C : Int)).toNat = C from rfl, clSt_parL hC hx]
  constructor
  · intro h a b hab hbl
    cases hag : agB C ll m (x : Int) a b with
    | false => rfl
    | true =>
      have h1 := (clsI_in hC hx (by omega) (show a < ll.length by omega)).2 ⟨b, hbl, by omega, hag⟩
      rw [List.length_eq_zero_iff.1 h] at h1
      simp [clsI] at h1
  · intro h
    refine Classical.byContradiction fun hne => ?_
    rw [parL_len] at hne
    obtain ⟨a, ha⟩ := List.exists_mem_of_length_pos (Nat.pos_of_ne_zero hne)
    obtain ⟨h1, -, h3⟩ := reps_mem.1 ha
    unfold clsC at h3
    rw [rows_one C ll m (x : Int) a _ fun t ht => h a _ (by omega) (by omega)] at h3
    simp at h3
/-- The complements of the agree sets. -/
def coV (c : Nat) (x : Int) : Int := bits .andNot .i64 (2 ^ c - 1) x
def coN (C x : Nat) : Nat := (coV C (x : Int)).toNat
theorem co_fin : ∀ (C : Fin 6) (x : Fin 32), coV C.val ((x.val : Nat) : Int) = ((coN C.val x.val : Nat) : Int) ∧ coN C.val x.val < 2 ^ C.val ∧ ∀ j : Fin 5, bitB (coN C.val x.val) j.val = (decide (j.val < C.val) && !bitB x.val j.val) := by decide +kernel
def coL (c : Int) (ll : List (List Int)) (m : Int) : List Int := (agrS c ll m).map (coV c.toNat)
def ktL (c : Int) (ll : List (List Int)) (m : Int) : List Int := if fineT c ll m = true then trL (coL c ll m) c else []
theorem co_mem {C : Nat} {ll : List (List Int)} {m : Int} (hf : fineT (C : Int) ll m = true) (hC : C ≤ 5) (y : Int) : y ∈ coL (C : Int) ll m ↔ ∃ a b, a < b ∧ b < ll.length ∧ y = (coN C (agX C ll m a b) : Int) := by
  unfold coL
  rw [List.mem_map, show ((C : Int)).toNat = C from rfl]
  constructor
  · rintro ⟨z, hz, rfl⟩
    obtain ⟨a, b, h1, h2, rfl⟩ := (agrS_mem9 hf hC z).1 hz
    exact ⟨a, b, h1, h2, (co_fin ⟨C, by omega⟩ ⟨_, (agX_eq hC ll m a b).2.2.1⟩).1⟩
  · rintro ⟨a, b, h1, h2, rfl⟩
    exact ⟨_, (agrS_mem9 hf hC _).2 ⟨a, b, h1, h2, rfl⟩, (co_fin ⟨C, by omega⟩ ⟨_, (agX_eq hC ll m a b).2.2.1⟩).1⟩
theorem agrS_asc9 (c : Int) (ll : List (List Int)) (m : Int) : AscI (agrS c ll m) := by
  unfold agrS
  split
  · exact agOut_asc9 _ _ _ _
  · exact List.Pairwise.nil
theorem co_fine {C : Nat} {ll : List (List Int)} {m : Int} (hf : fineT (C : Int) ll m = true) (hC : C ≤ 5) : (decide ((0 ≤ (C : Int) ∧ (C : Int) ≤ 5) ∧ (coL (C : Int) ll m).length ≤ 100) && (coL (C : Int) ll m).all (isA (C : Int))) = true := by
  have hm : ∀ y ∈ coL (C : Int) ll m, isA (C : Int) y = true := fun y hy => by
    obtain ⟨a, b, -, -, rfl⟩ := (co_mem hf hC y).1 hy
    exact isA_nat9 hC (co_fin ⟨C, by omega⟩ ⟨_, (agX_eq hC ll m a b).2.2.1⟩).2.1
  have hl : (coL (C : Int) ll m).length ≤ 32 := by
    unfold coL
    rw [List.length_map]
    refine asc_len (agrS_asc9 _ _ _) fun y hy => ?_
    obtain ⟨a, b, -, -, rfl⟩ := (agrS_mem9 hf hC y).1 hy
    exact val_nat (agX_eq hC ll m a b).2.2.1
  rw [Bool.and_eq_true, decide_eq_true_iff, List.all_eq_true]
  exact ⟨⟨by omega, by omega⟩, hm⟩
theorem co_hit {C x : Nat} {ll : List (List Int)} {m : Int} (hf : fineT (C : Int) ll m = true) (hC : C ≤ 5) (hx : x < 32) :
    (∀ y ∈ coL (C : Int) ll m, hitI y (x : Int) = true) ↔ ∀ a b, a < b → b < ll.length → ∃ j, j < C ∧ bitB x j = true ∧ bitB (agX C ll m a b) j = false := by
  have h32 := two5 hC
  have key : ∀ a b, hitI (coN C (agX C ll m a b) : Int) (x : Int) = true ↔ ∃ j, j < C ∧ bitB x j = true ∧ bitB (agX C ll m a b) j = false := by
    intro a b
    obtain ⟨-, d2, d3⟩ := co_fin ⟨C, by omega⟩ ⟨_, (agX_eq hC ll m a b).2.2.1⟩
    simp only at d2 d3
    rw [hit_iff (by omega) hx]
    constructor
    · rintro ⟨j, hj, h1, h2⟩
      have h := d3 ⟨j, hj⟩
      simp only at h
      rw [h, Bool.and_eq_true, decide_eq_true_iff, Bool.not_eq_true'] at h1
      exact ⟨j, h1.1, h2, h1.2⟩
    · rintro ⟨j, h1, h3, h4⟩
      have h := d3 ⟨j, by omega⟩
      simp only at h
      refine ⟨j, by omega, ?_, h3⟩
      rw [h, decide_eq_true h1, h4]
      rfl
  constructor
  · exact fun h a b hab hb => (key a b).1 (h _ ((co_mem hf hC _).2 ⟨a, b, hab, hb, rfl⟩))
  · intro h y hy
    obtain ⟨a, b, hab, hb, rfl⟩ := (co_mem hf hC y).1 hy
    exact (key a b).2 (h a b hab hb)
theorem co_uniq {C x : Nat} {ll : List (List Int)} {m : Int} (hf : fineT (C : Int) ll m = true) (hC : C ≤ 5) (hx : x < 2 ^ C) :
    (∀ y ∈ coL (C : Int) ll m, hitI y (x : Int) = true) ↔ uniqB (C : Int) ll m (x : Int) = true := by
  have h32 := two5 hC
  rw [co_hit hf hC (by omega), uniq_iff hf hC hx]
  constructor
  · intro h a b hab hb
    cases hag : agB C ll m (x : Int) a b with
    | false => rfl
    | true =>
      obtain ⟨j, h1, h3, h4⟩ := h a b hab hb
      rw [(ag_bits hC hx a b).1 hag j h1 h3] at h4
      cases h4
  · intro h a b hab hb
    refine Classical.byContradiction fun hno => ?_
    have hag : agB C ll m (x : Int) a b = true := (ag_bits hC hx a b).2 fun j hj hbj => by
      cases hc : bitB (agX C ll m a b) j with
      | true => rfl
      | false => exact absurd ⟨j, hj, hbj, hc⟩ hno
    rw [h a b hab hb] at hag
    cases hag
/-- The keys by transversals are the minimal keys. -/
theorem ktL_eq (c : Int) (ll : List (List Int)) (m : Int) : ktL c ll m = mkL c ll m := by
  unfold ktL mkL
  by_cases hf : fineT c ll m = true
  · have hb := isT_bd (fineT_isT hf)
    obtain ⟨C, rfl⟩ : ∃ C : Nat, c = (C : Int) := ⟨c.toNat, by omega⟩
    have hC : C ≤ 5 := by omega
    have h32 := two5 hC
    rw [if_pos hf, if_pos hf, show ((C : Int)).toNat = C from rfl]
    refine ascI_unique _ _ (by rw [trL_eq (co_fine hf hC)]; exact minS_asc _) (minS_asc _) fun z => ?_
    rw [trL_least (co_fine hf hC), minS_brd _ h32]
    have hup : UpN (2 ^ C) (fun x => uniqB (C : Int) ll m (x : Int) = true) := fun a b ha hb' hs h => by
      simp only at h ⊢
      rw [← co_uniq hf hC ha] at h
      rw [← co_uniq hf hC hb']
      rw [co_hit hf hC (by omega)] at h ⊢
      intro i k hik hk
      obtain ⟨j, h1, h2, h3⟩ := h i k hik hk
      exact ⟨j, h1, (subN_bit ⟨a, by omega⟩ ⟨b, by omega⟩).1 hs ⟨j, by omega⟩ h2, h3⟩
    constructor
    · rintro ⟨S, hS, rfl, h1, h2⟩
      have hlow : S < 2 ^ C := all_low ⟨C, by omega⟩ ⟨S, hS⟩ fun j hj => by
        refine Classical.byContradiction fun hn => ?_
        refine h2 j.val j.isLt hj ?_
        rw [co_hit hf hC hS] at h1
        rw [co_hit hf hC (Nat.lt_of_le_of_lt (Nat.sub_le _ _) hS)]
        intro a b hab hbl
        obtain ⟨i, k1, k2, k3⟩ := h1 a b hab hbl
        have hne : (⟨i, by omega⟩ : Fin 5) ≠ j := fun e => by rw [← e] at hn; simp only at hn; omega
        exact ⟨i, k1, (drop_bits ⟨S, hS⟩ j ⟨i, by omega⟩ hj hne).trans k2, k3⟩
      obtain ⟨l1, l2⟩ := (least_iff h32 hup hlow).1 ⟨(co_uniq hf hC hlow).1 h1, fun j hj hb' hh => h2 j hj hb' ((co_uniq hf hC (Nat.lt_of_le_of_lt (Nat.sub_le _ _) hlow)).2 hh)⟩
      exact ⟨S, hlow, l1, rfl, l2⟩
    · rintro ⟨S, hlow, l1, rfl, l2⟩
      obtain ⟨k1, k2⟩ := (least_iff h32 hup hlow).2 ⟨l1, l2⟩
      exact ⟨S, by omega, rfl, (co_uniq hf hC hlow).2 k1, fun j hj hb' hh => k2 j hj hb' ((co_uniq hf hC (Nat.lt_of_le_of_lt (Nat.sub_le _ _) hlow)).1 hh)⟩
  · rw [if_neg hf, if_neg hf]
    rfl
/-- What FnTransversals asks of the answer. -/
theorem tr_hits {E : List Int} {n x : Int} (h : x ∈ trL E n) : hitsA E x = true ∧ ∃ X : Nat, x = (X : Int) ∧ X < 32 ∧ ∀ k, k < 5 → bitB X k = true → hitsA E ((X - 2 ^ k : Nat) : Int) = false := by
  by_cases hok : (decide ((0 ≤ n ∧ n ≤ 5) ∧ E.length ≤ 100) && E.all (isA n)) = true
  · obtain ⟨X, hX, rfl, h1, h2⟩ := (trL_least hok x).1 h
    rw [Bool.and_eq_true, List.all_eq_true] at hok
    have hh : ∀ Y : Nat, Y < 32 → (hitsA E (Y : Int) = true ↔ ∀ y ∈ E, hitI y (Y : Int) = true) := fun Y hY => by
      unfold hitsA
      rw [Bool.and_eq_true, List.all_eq_true]
      exact ⟨fun k y hy => (by have := k.1 y hy; rw [Bool.and_eq_true] at this; exact this.2), fun k => ⟨fun y hy => by rw [isA_val (hok.2 y hy), k y hy]; rfl, val_nat hY⟩⟩
    refine ⟨(hh X hX).2 h1, X, rfl, hX, fun k hk hb => ?_⟩
    exact Bool.eq_false_iff.2 fun hc => h2 k hk hb ((hh _ (Nat.lt_of_le_of_lt (Nat.sub_le _ _) hX)).1 hc)
  · unfold trL at h
    rw [if_neg hok] at h
    cases h
end Go.Proofs.YtnbjcelfdppkcaaGreat
namespace Go.Proofs.YtnbjcelfdppkcaaGreat
open Go.RowKit

/-- x has a column in common with e, as the program asks. -/
def hx9 (e x : Int) : Bool := bits .and .i64 x e != 0
/-- What stands for x in the end. -/
def one9 (e x : Int) : List Int := if hx9 e x = true then [x] else grwOne e x 5
def fin9 (e : Int) (L : List Int) : List Int := L.flatMap (one9 e)
/-- How many do not hit. -/
def non9 (e : Int) (L : List Int) : Nat := (L.filter fun x => !hx9 e x).length
theorem grwOne_bits (e y : Int) : ∀ k, grwOne e y k = (memN e.toNat k).map fun j => bits .or .i64 y (2 ^ j.toNat)
  | 0 => rfl
  | k + 1 => by
    unfold grwOne
    rw [memN_succ, grwOne_bits e y k]
    split
    · rw [List.map_append]; rfl
    · rfl
theorem grwOne_mems {E : Nat} (hE : E < 32) (y : Int) : grwOne (E : Int) y 5 = (mems (E : Int)).map fun j => bits .or .i64 y (2 ^ j.toNat) := by
  rw [grwOne_bits]
  unfold mems
  rw [if_pos (by omega)]
theorem grwOne_len5 (e y : Int) : (grwOne e y 5).length ≤ 5 := by
  rw [grwOne_bits, List.length_map]
  exact memN_len _ _
theorem or_hit9 : ∀ (E y : Fin 32) (j : Fin 5), bitB E.val j.val = true → hx9 ((E.val : Nat) : Int) (bits .or .i64 ((y.val : Nat) : Int) (2 ^ j.val)) = true ∧ valB (bits .or .i64 ((y.val : Nat) : Int) (2 ^ j.val)) = true := by decide +kernel
theorem grwOne_hit {E Y : Nat} (hE : E < 32) (hY : Y < 32) : ∀ z ∈ grwOne (E : Int) (Y : Int) 5, hx9 (E : Int) z = true ∧ valB z = true := by
  intro z hz
  obtain ⟨j, hj, hb, rfl⟩ := (grwOne_mem _ _ _ _).1 hz
  exact or_hit9 ⟨E, hE⟩ ⟨Y, hY⟩ ⟨j, hj⟩ hb
theorem fin9_all {e : Int} : ∀ {L : List Int}, (∀ z ∈ L, hx9 e z = true) → fin9 e L = L
  | [], _ => rfl
  | x :: L, h => by
    unfold fin9
    rw [List.flatMap_cons]
    have h1 := h x (List.mem_cons_self ..)
    unfold one9
    rw [if_pos h1]
    exact congrArg (x :: ·) (fin9_all fun z hz => h z (List.mem_cons_of_mem _ hz))
theorem fin9_app (e : Int) (a b : List Int) : fin9 e (a ++ b) = fin9 e a ++ fin9 e b := List.flatMap_append
/-- The set at place i replaced. -/
def rep9 (e : Int) (L : List Int) (i : Nat) : List Int := L.take i ++ grwOne e (L.getD i 0) 5 ++ L.drop (i + 1)
theorem split9 (L : List Int) (i : Nat) (h : i < L.length) : L = L.take i ++ [L.getD i 0] ++ L.drop (i + 1) := by
  have e : L.getD i 0 = L[i] := by rw [List.getD_eq_getElem?_getD, List.getElem?_eq_getElem h]; rfl
  rw [e, List.append_assoc]
  show L = L.take i ++ (L[i] :: L.drop (i + 1))
  rw [← List.drop_eq_getElem_cons h, List.take_append_drop]
theorem rep9_fin {E : Nat} {L : List Int} {i : Nat} (hE : E < 32) (hL : ∀ z ∈ L, valB z = true) (h : i < L.length) (hn : hx9 (E : Int) (L.getD i 0) = false) : fin9 (E : Int) (rep9 (E : Int) L i) = fin9 (E : Int) L := by
  obtain ⟨Y, hY, hY2⟩ := valN (hL _ (mem_getD.2 ⟨i, h, rfl⟩))
  conv => rhs; rw [split9 L i h]
  unfold rep9
  rw [fin9_app, fin9_app, fin9_app, fin9_app]
  congr 2
  rw [hY, fin9_all fun z hz => (grwOne_hit hE hY2 z hz).1]
  unfold fin9
  rw [List.flatMap_cons, List.flatMap_nil, List.append_nil]
  unfold one9
  rw [hY] at hn
  rw [if_neg (by rw [hn]; exact Bool.false_ne_true)]
theorem rep9_val {E : Nat} {L : List Int} {i : Nat} (hE : E < 32) (hL : ∀ z ∈ L, valB z = true) (h : i < L.length) : ∀ z ∈ rep9 (E : Int) L i, valB z = true := by
  intro z hz
  unfold rep9 at hz
  rcases List.mem_append.1 hz with hz | hz
  · rcases List.mem_append.1 hz with hz | hz
    · exact hL z (List.mem_of_mem_take hz)
    · obtain ⟨Y, hY, hY2⟩ := valN (hL _ (mem_getD.2 ⟨i, h, rfl⟩))
      rw [hY] at hz
      exact (grwOne_hit hE hY2 z hz).2
  · exact hL z (List.mem_of_mem_drop hz)
theorem non9_app (e : Int) (a b : List Int) : non9 e (a ++ b) = non9 e a + non9 e b := by unfold non9; rw [List.filter_append, List.length_append]
theorem non9_all {e : Int} {L : List Int} (h : ∀ z ∈ L, hx9 e z = true) : non9 e L = 0 := by
  unfold non9
  rw [List.length_eq_zero_iff, List.filter_eq_nil_iff]
  intro z hz
  rw [h z hz]
  decide
theorem rep9_non {E : Nat} {L : List Int} {i : Nat} (hE : E < 32) (hL : ∀ z ∈ L, valB z = true) (h : i < L.length) (hn : hx9 (E : Int) (L.getD i 0) = false) : non9 (E : Int) (rep9 (E : Int) L i) + 1 = non9 (E : Int) L ∧ (rep9 (E : Int) L i).length ≤ L.length + 4 := by
  obtain ⟨Y, hY, hY2⟩ := valN (hL _ (mem_getD.2 ⟨i, h, rfl⟩))
  constructor
  · conv => rhs; rw [split9 L i h]
    unfold rep9
    rw [non9_app, non9_app, non9_app, non9_app]
    have h1 : non9 (E : Int) (grwOne (E : Int) (L.getD i 0) 5) = 0 := by rw [hY]; exact non9_all fun z hz => (grwOne_hit hE hY2 z hz).1
    have h2 : non9 (E : Int) [L.getD i 0] = 1 := by
      unfold non9
      rw [List.filter_cons, if_pos (by rw [hn]; rfl)]
      rfl
    omega
  · unfold rep9
    rw [List.length_append, List.length_append, List.length_take, List.length_drop]
    have := grwOne_len5 (E : Int) (L.getD i 0)
    omega
theorem non9_le (e : Int) (L : List Int) : non9 e L ≤ L.length := List.length_filter_le _ _
/-- How many sets may stand in the end. -/
def wt9 (e : Int) : Nat → Nat
  | 0 => 0
  | n + 1 => wt9 e n + (one9 e (n : Int)).length
theorem wt9_fin : ∀ E : Fin 32, wt9 ((E.val : Nat) : Int) 32 ≤ 100 := by decide +kernel
theorem fin9_wt (e : Int) (f : Nat → Bool) : ∀ n, (fin9 e (lstTo f n)).length ≤ wt9 e n
  | 0 => Nat.le_refl _
  | n + 1 => by
    have ih := fin9_wt e f n
    have h : lstTo f (n + 1) = if f n = true then lstTo f n ++ [(n : Int)] else lstTo f n := rfl
    rw [h]
    unfold wt9
    split
    · rw [fin9_app, List.length_append]
      unfold fin9 at *
      rw [List.flatMap_cons, List.flatMap_nil, List.append_nil]
      omega
    · omega
theorem fin9_mem (e z : Int) (L : List Int) : z ∈ fin9 e L ↔ ∃ x ∈ L, z ∈ one9 e x := List.mem_flatMap
theorem grwTo_fin (l : List Int) (e z : Int) : z ∈ grwTo l e l.length ↔ z ∈ fin9 e l := by
  rw [grwTo_mem, fin9_mem]
  constructor
  · rintro ⟨t, ht, h⟩
    refine ⟨_, mem_getD.2 ⟨t, ht, rfl⟩, ?_⟩
    unfold one9 hx9
    rcases h with ⟨h1, rfl⟩ | ⟨h1, h2⟩
    · rw [if_pos h1]; exact List.mem_singleton.2 rfl
    · rw [if_neg (by rw [h1]; exact Bool.false_ne_true)]
      exact (grwOne_mem _ _ _ 5).2 h2
  · rintro ⟨x, hx, h⟩
    obtain ⟨t, ht, rfl⟩ := mem_getD.1 hx
    refine ⟨t, ht, ?_⟩
    unfold one9 hx9 at h
    split at h
    · rename_i h1
      exact .inl ⟨h1, List.mem_singleton.1 h⟩
    · rename_i h1
      exact .inr ⟨by simpa using h1, (grwOne_mem _ _ _ 5).1 h⟩
theorem fin9_val {E : Nat} (hE : E < 32) {L : List Int} (hL : ∀ z ∈ L, valB z = true) : ∀ z ∈ fin9 (E : Int) L, valB z = true := by
  intro z hz
  obtain ⟨x, hx, h⟩ := (fin9_mem _ _ _).1 hz
  obtain ⟨Y, rfl, hY⟩ := valN (hL x hx)
  unfold one9 at h
  split at h
  · rw [List.mem_singleton.1 h]; exact hL _ hx
  · exact (grwOne_hit hE hY z h).2
theorem lst_val (l : List Int) : ∀ z ∈ lstF (memF l), valB z = true := by
  intro z hz
  obtain ⟨j, hj, -, rfl⟩ := (lstF_mem _ _).1 hz
  exact val_nat hj
theorem lst_mem {l : List Int} (h : ∀ z ∈ l, valB z = true) (z : Int) : z ∈ lstF (memF l) ↔ z ∈ l := by
  rw [lstF_mem]
  constructor
  · rintro ⟨j, -, h1, rfl⟩
    unfold memF at h1
    rwa [decide_eq_true_iff] at h1
  · intro hz
    obtain ⟨X, rfl, hX⟩ := valN (h z hz)
    exact ⟨X, hX, by unfold memF; rwa [decide_eq_true_iff], rfl⟩
theorem minS_same {a b : List Int} (ha : setsOk a = true) (hb : setsOk b = true) (h : ∀ z, z ∈ a ↔ z ∈ b) : minS a = minS b := by
  refine ascI_unique _ _ (minS_asc _) (minS_asc _) fun z => ?_
  rw [← minS_eq, ← minS_eq, unsS_mem _ _ ha, unsS_mem _ _ hb, h z]
  have hx : ∀ c d : List Int, (∀ z, z ∈ c ↔ z ∈ d) → (∀ i, i < c.length → (c.getD i 0 != z && subS (c.getD i 0) z) = false) → ∀ i, i < d.length → (d.getD i 0 != z && subS (d.getD i 0) z) = false := fun c d hcd hc i hi => by
    obtain ⟨t, ht, e⟩ := mem_getD.1 ((hcd _).2 (mem_getD.2 ⟨i, hi, rfl⟩))
    rw [e]
    exact hc t ht
  exact ⟨fun ⟨h1, h2⟩ => ⟨h1, hx a b h h2⟩, fun ⟨h1, h2⟩ => ⟨h1, hx b a (fun z => (h z).symm) h2⟩⟩
/-- The program's list and the model's have the same smallest sets. -/
theorem grow_eq {E : Nat} (hE : E < 32) {l : List Int} (hl : setsOk l = true) : setsOk (fin9 (E : Int) (lstF (memF l))) = true ∧ minS (fin9 (E : Int) (lstF (memF l))) = grwL l (E : Int) := by
  have hv : ∀ z ∈ l, valB z = true := by
    unfold setsOk at hl
    rw [Bool.and_eq_true, List.all_eq_true] at hl
    exact hl.1
  have h1 : setsOk (fin9 (E : Int) (lstF (memF l))) = true := by
    unfold setsOk
    rw [Bool.and_eq_true, List.all_eq_true, decide_eq_true_iff]
    exact ⟨fin9_val hE (lst_val l), Nat.le_trans (fin9_wt _ _ 32) (wt9_fin ⟨E, hE⟩)⟩
  have hm : ∀ z, z ∈ fin9 (E : Int) (lstF (memF l)) ↔ z ∈ ddTo (grwTo l (E : Int) l.length) (grwTo l (E : Int) l.length).length := fun z => by
    rw [dd_mem, grwTo_fin, fin9_mem, fin9_mem]
    exact ⟨fun ⟨x, hx, h⟩ => ⟨x, (lst_mem hv x).1 hx, h⟩, fun ⟨x, hx, h⟩ => ⟨x, (lst_mem hv x).2 hx, h⟩⟩
  have h2 : setsOk (ddTo (grwTo l (E : Int) l.length) (grwTo l (E : Int) l.length).length) = true := asc_ok (ddTo_asc _ _) fun y hy => fin9_val hE (lst_val l) y ((hm y).2 hy)
  refine ⟨h1, ?_⟩
  unfold grwL
  rw [hl, val_nat hE, Bool.true_and, if_pos rfl]
  exact minS_same h1 h2 hm
theorem setsOk_i64 {l : List Int} (h : ∀ z ∈ l, valB z = true) : I64s l := fun x hx => by
  obtain ⟨X, rfl, hX⟩ := valN (h x hx)
  omega
end Go.Proofs.YtnbjcelfdppkcaaGreat
