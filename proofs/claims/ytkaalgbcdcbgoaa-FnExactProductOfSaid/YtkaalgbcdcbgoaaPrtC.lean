/- The groups by a key are the classes by their first rows: plain facts. Conditions: none. -/
import Derived.Test.YtkaalgbcdcbgoaaPrtB
import Derived.Test.YtkaalgbcdcbgoaaParI
namespace Go.Proofs.Ytkaalgbcdcbgoaa

theorem ascG_unique {α : Type} {r : α → α → Prop} (irr : ∀ x, ¬ r x x) (tr : ∀ x y z, r x y → r y z → r x z) : ∀ (a b : List α), a.Pairwise r → b.Pairwise r → (∀ x, x ∈ a ↔ x ∈ b) → a = b
  | [], [], _, _, _ => rfl
  | [], y :: t, _, _, h => by have := (h y).2 (by simp); cases this
  | x :: s, [], _, _, h => by have := (h x).1 (by simp); cases this
  | x :: s, y :: t, ha, hb, h => by
    rw [List.pairwise_cons] at ha hb
    have hxy : x = y := by
      rcases List.mem_cons.1 ((h x).1 (by simp)) with e | e
      · exact e
      · rcases List.mem_cons.1 ((h y).2 (by simp)) with e' | e'
        · exact e'.symm
        · exact (irr x (tr _ _ _ (ha.1 y e') (hb.1 x e))).elim
    subst hxy
    have hst : s = t := ascG_unique irr tr s t ha.2 hb.2 fun z => by
      have hz := h z
      rw [List.mem_cons, List.mem_cons] at hz
      constructor
      · intro hm
        rcases hz.1 (Or.inr hm) with e | e
        · subst e; exact (irr z (ha.1 z hm)).elim
        · exact e
      · intro hm
        rcases hz.2 (Or.inr hm) with e | e
        · subst e; exact (irr z (hb.1 z hm)).elim
        · exact e
    rw [hst]
/-- The rows whose key is r. -/
def grpOf (key : Nat → Option (List Int)) (n : Nat) (r : List Int) : List Int := ((List.range n).filter fun i => decide (key i = some r)).map fun (i : Nat) => (i : Int)
theorem grpOf_mem {key : Nat → Option (List Int)} {n : Nat} {r : List Int} {x : Int} : x ∈ grpOf key n r ↔ ∃ i, i < n ∧ key i = some r ∧ x = (i : Int) := by
  unfold grpOf
  rw [List.mem_map]
  constructor
  · rintro ⟨i, hi, rfl⟩
    rw [List.mem_filter, List.mem_range, decide_eq_true_eq] at hi
    exact ⟨i, hi.1, hi.2, rfl⟩
  · rintro ⟨i, h1, h2, rfl⟩
    exact ⟨i, by rw [List.mem_filter, List.mem_range, decide_eq_true_eq]; exact ⟨h1, h2⟩, rfl⟩
theorem range_asc (n : Nat) : (List.range n).Pairwise (fun a b => a < b) := List.pairwise_lt_range
theorem grpOf_asc (key : Nat → Option (List Int)) (n : Nat) (r : List Int) : (grpOf key n r).Pairwise (fun a b => a < b) := by
  unfold grpOf
  rw [List.pairwise_map]
  exact ((range_asc n).filter _).imp fun {a b} h => by omega
theorem grpOf_len (key : Nat → Option (List Int)) (n : Nat) (r : List Int) : (grpOf key n r).length ≤ n := by
  unfold grpOf
  rw [List.length_map]
  exact Nat.le_trans (List.length_filter_le _ _) (by simp)
theorem grpOf_zero (key : Nat → Option (List Int)) (r : List Int) : [] = grpOf key 0 r := rfl
theorem grpOf_some {key : Nat → Option (List Int)} {n : Nat} {r : List Int} (h : key n = some r) (s : List Int) : (if s = r then grpOf key n s ++ [(n : Int)] else grpOf key n s) = grpOf key (n + 1) s := by
  unfold grpOf
  rw [List.range_succ, List.filter_append, List.map_append]
  by_cases hs : s = r
  · subst hs
    simp [h]
  · rw [if_neg hs, List.filter_cons, if_neg (by rw [h]; simp; exact fun e => hs e.symm)]; simp
theorem grpOf_none {key : Nat → Option (List Int)} {n : Nat} (h : key n = none) (s : List Int) : grpOf key n s = grpOf key (n + 1) s := by
  unfold grpOf
  rw [List.range_succ, List.filter_append, List.map_append, List.filter_cons, if_neg (by rw [h]; simp)]; simp
theorem asc_head {l : List Int} {a : Int} (h : l.Pairwise (fun a b => a < b)) (ha : a ∈ l) (hl : ∀ x ∈ l, a ≤ x) : ∃ t, l = a :: t := by
  cases l with
  | nil => cases ha
  | cons x t =>
    rw [List.pairwise_cons] at h
    rcases List.mem_cons.1 ha with e | e
    · exact ⟨t, by rw [e]⟩
    · have := h.1 a e
      have := hl x (by simp)
      omega
theorem least_key {key : Nat → Option (List Int)} {r : List Int} : ∀ n, (∃ i, i < n ∧ key i = some r) → ∃ a, a < n ∧ key a = some r ∧ ∀ b, b < a → key b ≠ some r
  | 0, ⟨i, h, _⟩ => absurd h (Nat.not_lt_zero _)
  | n + 1, ⟨i, h, hi⟩ => by
    by_cases hx : ∃ j, j < n ∧ key j = some r
    · obtain ⟨a, h1, h2⟩ := least_key n hx
      exact ⟨a, by omega, h2⟩
    · have : i = n := by
        by_cases e : i = n
        · exact e
        · exact (hx ⟨i, by omega, hi⟩).elim
      subst this
      exact ⟨i, h, hi, fun b hb e => hx ⟨b, hb, e⟩⟩
theorem grpOf_head {key : Nat → Option (List Int)} {n a : Nat} {r : List Int} (ha : a < n) (hk : key a = some r) (hf : ∀ b, b < a → key b ≠ some r) : ∃ t, grpOf key n r = (a : Int) :: t := by
  refine asc_head (grpOf_asc key n r) (grpOf_mem.2 ⟨a, ha, hk, rfl⟩) fun x hx => ?_
  obtain ⟨i, h1, h2, rfl⟩ := grpOf_mem.1 hx
  by_cases h : i < a
  · exact (hf i h h2).elim
  · omega
/-- The groups of at least two rows, in order, are the classes of the rows that are the first ones with their keys. -/
theorem groups_eq {key : Nat → Option (List Int)} {n : Nat} (hR : ∀ i r, i < n → key i = some r → R5 r) {L rs : List (List Int)} (hp : L.Perm (rs.map (grpOf key n))) (ho : L.Pairwise (fun p q => lessR q p = false)) (hn : rs.Nodup)
    (hm : ∀ x, R5 x → (x ∈ rs ↔ 2 ≤ (grpOf key n x).length)) (h5 : ∀ x ∈ rs, R5 x) {P : Nat → Bool} {cl : Nat → List Int}
    (hP : ∀ a, a < n → (P a = true ↔ ∃ r, key a = some r ∧ (∀ b, b < a → key b ≠ some r) ∧ 2 ≤ (grpOf key n r).length)) (hc : ∀ a, a < n → ∀ r, key a = some r → (∀ b, b < a → key b ≠ some r) → cl a = grpOf key n r) :
    L = ((List.range n).filter P).map cl := by
  refine ascG_unique (r := fun p q => lessR p q = true) (fun x => by rw [lessR_irrefl]; simp) lessR_trans _ _ ?_ ?_ ?_
  · have hnd : L.Nodup := by
      refine hp.nodup_iff.2 ?_
      unfold List.Nodup
      rw [List.pairwise_map]
      refine hn.imp_of_mem fun {r r'} h1 h2 hne e => hne ?_
      have h3 := (hm r (h5 r h1)).1 h1
      cases hg : grpOf key n r with
      | nil => rw [hg] at h3; simp at h3
      | cons x t =>
        obtain ⟨i, -, h4, hx⟩ := grpOf_mem.1 (show x ∈ grpOf key n r by rw [hg]; simp)
        obtain ⟨k, -, h6, hy⟩ := grpOf_mem.1 (show x ∈ grpOf key n r' by rw [← e, hg]; simp)
        obtain rfl : i = k := by omega
        rw [h4] at h6
        exact Option.some.inj h6
    refine (ho.and hnd).imp fun {p q} h => ?_
    cases hl : lessR p q with
    | true => rfl
    | false => exact (h.2 (lessR_total p q hl h.1)).elim
  · rw [List.pairwise_map]
    refine ((range_asc n).filter P).imp_of_mem fun {a b} ha hb hab => ?_
    rw [List.mem_filter, List.mem_range] at ha hb
    obtain ⟨r, h1, h2, -⟩ := (hP a ha.1).1 ha.2
    obtain ⟨r', h1', h2', -⟩ := (hP b hb.1).1 hb.2
    rw [hc a ha.1 r h1 h2, hc b hb.1 r' h1' h2']
    obtain ⟨t, ht⟩ := grpOf_head ha.1 h1 h2
    obtain ⟨t', ht'⟩ := grpOf_head hb.1 h1' h2'
    rw [ht, ht']
    unfold lessR
    rw [if_neg (by omega), decide_eq_true_eq]; omega
  · intro z
    rw [hp.mem_iff, List.mem_map, List.mem_map]
    constructor
    · rintro ⟨r, hr, rfl⟩
      have h3 := (hm r (h5 r hr)).1 hr
      obtain ⟨a, h4, h6, h7⟩ := least_key (key := key) (r := r) n (by
        cases hg : grpOf key n r with
        | nil => rw [hg] at h3; simp at h3
        | cons x t =>
          obtain ⟨i, h1, h4, -⟩ := grpOf_mem.1 (show x ∈ grpOf key n r by rw [hg]; simp)
          exact ⟨i, h1, h4⟩)
      exact ⟨a, by rw [List.mem_filter, List.mem_range]; exact ⟨h4, (hP a h4).2 ⟨r, h6, h7, h3⟩⟩, hc a h4 r h6 h7⟩
    · rintro ⟨a, ha, rfl⟩
      rw [List.mem_filter, List.mem_range] at ha
      obtain ⟨r, h1, h2, h3⟩ := (hP a ha.1).1 ha.2
      exact ⟨r, (hm r (hR a r ha.1 h1)).2 h3, (hc a ha.1 r h1 h2).symm⟩
/-- The key of a row in a product. -/
def keyP (p q : List (List Int)) (i : Nat) : Option (List Int) := if 0 ≤ clsI p (i : Int) ∧ 0 ≤ clsI q (i : Int) then some [clsI p (i : Int), clsI q (i : Int), 0, 0, 0] else none
theorem keyP_same {p q : List (List Int)} {a b : Nat} {r : List Int} (h : keyP p q a = some r) : keyP p q b = some r ↔ clsI p (b : Int) = clsI p (a : Int) ∧ clsI q (b : Int) = clsI q (a : Int) := by
  unfold keyP at *
  split at h
  · next h0 =>
    have h' := (Option.some.inj h).symm
    subst h'
    constructor
    · intro hb
      split at hb
      · have := Option.some.inj hb
        simp only [List.cons.injEq, and_true] at this
        exact this
      · cases hb
    · rintro ⟨h1, h2⟩
      rw [if_pos (by rw [h1, h2]; exact h0), h1, h2]
  · cases h
theorem prC_asc {p : List (List Int)} (q : List (List Int)) {rows : Int} (hp : partP p rows = true) {a b : Nat} (ha : a < p.length) : (prC p q a b).Pairwise (fun x y => x < y) := by
  obtain ⟨-, hc⟩ := partP_iff.mp hp
  have h4 := (hc a ha).2.2.2.1
  unfold prC
  refine List.Pairwise.filter _ ?_
  rw [List.pairwise_iff_getElem]
  intro i j hi hj hij
  have := asc_lt h4 (i := i) (j - i - 1) (by omega)
  rw [show i + (j - i - 1) + 1 = j by omega, ← get_getD _ _ hi, ← get_getD _ _ hj] at this
  exact this
theorem product_eq {p q : List (List Int)} {rows : Int} (hp : partP p rows = true) (hq : partP q rows = true) {L rs : List (List Int)} (hpm : L.Perm (rs.map (grpOf (keyP p q) rows.toNat))) (ho : L.Pairwise (fun p q => lessR q p = false)) (hn : rs.Nodup)
    (hm : ∀ x, R5 x → (x ∈ rs ↔ 2 ≤ (grpOf (keyP p q) rows.toNat x).length)) (h5 : ∀ x ∈ rs, R5 x) (hR : ∀ i r, i < rows.toNat → keyP p q i = some r → R5 r) : L = proS p q rows := by
  rw [proS_eq p q rows hp hq]
  have hrow := partP_rows hp
  have hcl : ∀ a, a < rows.toNat → ∀ r, keyP p q a = some r → prC p q (clsI p (a : Int)).toNat (clsI q (a : Int)).toNat = grpOf (keyP p q) rows.toNat r := by
    intro a ha r hk
    have hk' := hk
    unfold keyP at hk'
    split at hk'
    · next h0 =>
      have h2 := clsI_ge p (a : Int)
      refine ascG_unique (r := fun x y => x < y) (fun x => by omega) (fun x y z => by omega) _ _ (prC_asc q hp (by omega)) (grpOf_asc _ _ _) fun x => ?_
      rw [prC_mem hp hq h0.1 h0.2, grpOf_mem]
      constructor
      · rintro ⟨h3, h4⟩
        have hx : x ∈ p.getD (clsI p x).toNat [] := (clsI_part hp (by omega)).2 (by omega)
        obtain ⟨t, ht, e⟩ := mem_getD'.mp hx
        have hb := ((partP_iff.mp hp).2 _ (by omega)).2.2.1 t ht
        rw [← e] at hb
        refine ⟨x.toNat, by omega, (keyP_same hk).2 ?_, by omega⟩
        rw [show ((x.toNat : Nat) : Int) = x by omega]
        exact ⟨h3, h4⟩
      · rintro ⟨i, h3, h4, rfl⟩
        exact (keyP_same hk).1 h4
    · cases hk'
  refine groups_eq hR hpm ho hn hm h5 (fun a ha => ?_) (fun a ha r hk _ => hcl a ha r hk)
  rw [Bool.and_eq_true, decide_eq_true_eq]
  unfold rep2
  rw [Bool.and_eq_true, decide_eq_true_eq, Bool.not_eq_true']
  constructor
  · rintro ⟨⟨h0, h1⟩, h2⟩
    have hk : keyP p q a = some [clsI p (a : Int), clsI q (a : Int), 0, 0, 0] := by unfold keyP; rw [if_pos h0]
    refine ⟨_, hk, fun b hb e => ?_, by rw [← hcl a ha _ hk]; omega⟩
    rw [List.any_eq_false] at h1
    exact h1 b (List.mem_range.mpr hb) (decide_eq_true ((keyP_same hk).1 e))
  · rintro ⟨r, hk, hf, hlen⟩
    have hk' := hk
    unfold keyP at hk'
    split at hk'
    · next h0 =>
      refine ⟨⟨h0, ?_⟩, by rw [hcl a ha r hk]; omega⟩
      rw [List.any_eq_false]
      intro b hb hd
      exact hf b (List.mem_range.mp hb) ((keyP_same hk).2 (of_decide_eq_true hd))
    · cases hk'
end Go.Proofs.Ytkaalgbcdcbgoaa
