/- Texts of this claim, merged: PrtC, RecO, PrtE0, PrtE, MapI, PgA. Conditions: as stated. -/
import Derived.Test.YtfndnaldgaaieaaGreatDoorSi26
import Derived.Test.YtfndnaldgaaieaaGreatDoorSi19
import Derived.Test.YtfndnaldgaaieaaGreatDoorSi25
import Derived.Test.YtfndnaldgaaieaaGreatDoorSi24
import Derived.Maps.RangeWalk
namespace Go.Proofs.YtfndnaldgaaieaaGreatDoor

theorem ascG_unique {α : Type} {r : α → α → Prop} (irr : ∀ x, ¬ r x x) (tr : ∀ x y z, r x y → r y z → r x z) : ∀ (a b : List α), a.Pairwise r → b.Pairwise r → (∀ x, x ∈ a ↔ x ∈ b) → a = b
  | [], [], _, _, _ => rfl
  | [], y :: t, _, _, h => by have := (h y).2 (by simp); cases this
  | x :: s, [], _, _, h => by have := (h x).1 (by simp); cases this
  | x :: s, y :: t, ha, hb, h => by
    rw [List.pairwise_cons] at ha hb
    have hxy : x = y := by
      rcases List.mem_cons.1 ((h x).1 (by simp)) with e | e
      · exact e
      · rcases List.mem_cons.1 ((h y).2 (by simp)) with e' | e'
        · exact e'.symm
        · exact (irr x (tr _ _ _ (ha.1 y e') (hb.1 x e))).elim
    subst hxy
    have hst : s = t := ascG_unique irr tr s t ha.2 hb.2 fun z => by
      have hz := h z
      rw [List.mem_cons, List.mem_cons] at hz
      constructor
      · intro hm
        rcases hz.1 (Or.inr hm) with e | e
        · subst e; exact (irr z (ha.1 z hm)).elim
        · exact e
      · intro hm
        rcases hz.2 (Or.inr hm) with e | e
        · subst e; exact (irr z (hb.1 z hm)).elim
        · exact e
    rw [hst]
/-- The rows whose key is r. -/
def grpOf (key : Nat → Option (List Int)) (n : Nat) (r : List Int) : List Int := ((List.range n).filter fun i => decide (key i = some r)).map fun (i : Nat) => (i : Int)
theorem grpOf_mem {key : Nat → Option (List Int)} {n : Nat} {r : List Int} {x : Int} : x ∈ grpOf key n r ↔ ∃ i, i < n ∧ key i = some r ∧ x = (i : Int) := by
  unfold grpOf
  rw [List.mem_map]
  constructor
  · rintro ⟨i, hi, rfl⟩
    rw [List.mem_filter, List.mem_range, decide_eq_true_eq] at hi
    exact ⟨i, hi.1, hi.2, rfl⟩
  · rintro ⟨i, h1, h2, rfl⟩
    exact ⟨i, by rw [List.mem_filter, List.mem_range, decide_eq_true_eq]; exact ⟨h1, h2⟩, rfl⟩
theorem range_asc (n : Nat) : (List.range n).Pairwise (fun a b => a < b) := List.pairwise_lt_range
theorem grpOf_asc (key : Nat → Option (List Int)) (n : Nat) (r : List Int) : (grpOf key n r).Pairwise (fun a b => a < b) := by
  unfold grpOf
  rw [List.pairwise_map]
  exact ((range_asc n).filter _).imp fun {a b} h => by omega
theorem grpOf_len (key : Nat → Option (List Int)) (n : Nat) (r : List Int) : (grpOf key n r).length ≤ n := by
  unfold grpOf
  rw [List.length_map]
  exact Nat.le_trans (List.length_filter_le _ _) (by simp)
theorem grpOf_zero (key : Nat → Option (List Int)) (r : List Int) : [] = grpOf key 0 r := rfl
theorem grpOf_some {key : Nat → Option (List Int)} {n : Nat} {r : List Int} (h : key n = some r) (s : List Int) : (if s = r then grpOf key n s ++ [(n : Int)] else grpOf key n s) = grpOf key (n + 1) s := by
  unfold grpOf
  rw [List.range_succ, List.filter_append, List.map_append]
  by_cases hs : s = r
  · subst hs
    simp [h]
  · rw [if_neg hs, List.filter_cons, if_neg (by rw [h]; simp; exact fun e => hs e.symm)]; simp
theorem grpOf_none {key : Nat → Option (List Int)} {n : Nat} (h : key n = none) (s : List Int) : grpOf key n s = grpOf key (n + 1) s := by
  unfold grpOf
  rw [List.range_succ, List.filter_append, List.map_append, List.filter_cons, if_neg (by rw [h]; simp)]; simp
theorem asc_head {l : List Int} {a : Int} (h : l.Pairwise (fun a b => a < b)) (ha : a ∈ l) (hl : ∀ x ∈ l, a ≤ x) : ∃ t, l = a :: t := by
  cases l with
  | nil => cases ha
  | cons x t =>
    rw [List.pairwise_cons] at h
    rcases List.mem_cons.1 ha with e | e
    · exact ⟨t, by rw [e]⟩
    · have := h.1 a e
      have := hl x (by simp)
      omega
theorem least_key {key : Nat → Option (List Int)} {r : List Int} : ∀ n, (∃ i, i < n ∧ key i = some r) → ∃ a, a < n ∧ key a = some r ∧ ∀ b, b < a → key b ≠ some r
  | 0, ⟨i, h, _⟩ => absurd h (Nat.not_lt_zero _)
  | n + 1, ⟨i, h, hi⟩ => by
    by_cases hx : ∃ j, j < n ∧ key j = some r
    · obtain ⟨a, h1, h2⟩ := least_key n hx
      exact ⟨a, by omega, h2⟩
    · have : i = n := by
        by_cases e : i = n
        · exact e
        · exact (hx ⟨i, by omega, hi⟩).elim
      subst this
      exact ⟨i, h, hi, fun b hb e => hx ⟨b, hb, e⟩⟩
theorem grpOf_head {key : Nat → Option (List Int)} {n a : Nat} {r : List Int} (ha : a < n) (hk : key a = some r) (hf : ∀ b, b < a → key b ≠ some r) : ∃ t, grpOf key n r = (a : Int) :: t := by
  refine asc_head (grpOf_asc key n r) (grpOf_mem.2 ⟨a, ha, hk, rfl⟩) fun x hx => ?_
  obtain ⟨i, h1, h2, rfl⟩ := grpOf_mem.1 hx
  by_cases h : i < a
  · exact (hf i h h2).elim
  · omega
/-- The groups of at least two rows, in order, are the classes of the rows that are the first ones with their keys. -/
theorem groups_eq {key : Nat → Option (List Int)} {n : Nat} (hR : ∀ i r, i < n → key i = some r → R5 r) {L rs : List (List Int)} (hp : L.Perm (rs.map (grpOf key n))) (ho : L.Pairwise (fun p q => lessR q p = false)) (hn : rs.Nodup)
    (hm : ∀ x, R5 x → (x ∈ rs ↔ 2 ≤ (grpOf key n x).length)) (h5 : ∀ x ∈ rs, R5 x) {P : Nat → Bool} {cl : Nat → List Int}
    (hP : ∀ a, a < n → (P a = true ↔ ∃ r, key a = some r ∧ (∀ b, b < a → key b ≠ some r) ∧ 2 ≤ (grpOf key n r).length)) (hc : ∀ a, a < n → ∀ r, key a = some r → (∀ b, b < a → key b ≠ some r) → cl a = grpOf key n r) :
    L = ((List.range n).filter P).map cl := by
  refine ascG_unique (r := fun p q => lessR p q = true) (fun x => by rw [lessR_irrefl]; simp) lessR_trans _ _ ?_ ?_ ?_
  · have hnd : L.Nodup := by
      refine hp.nodup_iff.2 ?_
      unfold List.Nodup
      rw [List.pairwise_map]
      refine hn.imp_of_mem fun {r r'} h1 h2 hne e => hne ?_
      have h3 := (hm r (h5 r h1)).1 h1
      cases hg : grpOf key n r with
      | nil => rw [hg] at h3; simp at h3
      | cons x t =>
        obtain ⟨i, -, h4, hx⟩ := grpOf_mem.1 (show x ∈ grpOf key n r by rw [hg]; simp)
        obtain ⟨k, -, h6, hy⟩ := grpOf_mem.1 (show x ∈ grpOf key n r' by rw [← e, hg]; simp)
        obtain rfl : i = k := by omega
        rw [h4] at h6
        exact Option.some.inj h6
    refine (ho.and hnd).imp fun {p q} h => ?_
    cases hl : lessR p q with
    | true => rfl
    | false => exact (h.2 (lessR_total p q hl h.1)).elim
  · rw [List.pairwise_map]
    refine ((range_asc n).filter P).imp_of_mem fun {a b} ha hb hab => ?_
    rw [List.mem_filter, List.mem_range] at ha hb
    obtain ⟨r, h1, h2, -⟩ := (hP a ha.1).1 ha.2
    obtain ⟨r', h1', h2', -⟩ := (hP b hb.1).1 hb.2
    rw [hc a ha.1 r h1 h2, hc b hb.1 r' h1' h2']
    obtain ⟨t, ht⟩ := grpOf_head ha.1 h1 h2
    obtain ⟨t', ht'⟩ := grpOf_head hb.1 h1' h2'
    rw [ht, ht']
    unfold lessR
    rw [if_neg (by omega), decide_eq_true_eq]; omega
  · intro z
    rw [hp.mem_iff, List.mem_map, List.mem_map]
    constructor
    · rintro ⟨r, hr, rfl⟩
      have h3 := (hm r (h5 r hr)).1 hr
      obtain ⟨a, h4, h6, h7⟩ := least_key (key := key) (r := r) n (by
        cases hg : grpOf key n r with
        | nil => rw [hg] at h3; simp at h3
        | cons x t =>
          obtain ⟨i, h1, h4, -⟩ := grpOf_mem.1 (show x ∈ grpOf key n r by rw [hg]; simp)
          exact ⟨i, h1, h4⟩)
      exact ⟨a, by rw [List.mem_filter, List.mem_range]; exact ⟨h4, (hP a h4).2 ⟨r, h6, h7, h3⟩⟩, hc a h4 r h6 h7⟩
    · rintro ⟨a, ha, rfl⟩
      rw [List.mem_filter, List.mem_range] at ha
      obtain ⟨r, h1, h2, h3⟩ := (hP a ha.1).1 ha.2
      exact ⟨r, (hm r (hR a r ha.1 h1)).2 h3, (hc a ha.1 r h1 h2).symm⟩
/-- The key of a row in a product. -/
def keyP (p q : List (List Int)) (i : Nat) : Option (List Int) := if 0 ≤ clsI p (i : Int) ∧ 0 ≤ clsI q (i : Int) then some [clsI p (i : Int), clsI q (i : Int), 0, 0, 0] else none
theorem keyP_same {p q : List (List Int)} {a b : Nat} {r : List Int} (h : keyP p q a = some r) : keyP p q b = some r ↔ clsI p (b : Int) = clsI p (a : Int) ∧ clsI q (b : Int) = clsI q (a : Int) := by
  unfold keyP at *
  split at h
  · next h0 =>
    have h' := (Option.some.inj h).symm
    subst h'
    constructor
    · intro hb
      split at hb
      · have := Option.some.inj hb
        simp only [List.cons.injEq, and_true] at this
        exact this
      · cases hb
    · rintro ⟨h1, h2⟩
      rw [if_pos (by rw [h1, h2]; exact h0), h1, h2]
  · cases h
theorem prC_asc {p : List (List Int)} (q : List (List Int)) {rows : Int} (hp : partP p rows = true) {a b : Nat} (ha : a < p.length) : (prC p q a b).Pairwise (fun x y => x < y) := by
  obtain ⟨-, hc⟩ := partP_iff.mp hp
  have h4 := (hc a ha).2.2.2.1
  unfold prC
  refine List.Pairwise.filter _ ?_
  rw [List.pairwise_iff_getElem]
  intro i j hi hj hij
  have := asc_lt h4 (i := i) (j - i - 1) (by omega)
  rw [show i + (j - i - 1) + 1 = j by omega, ← get_getD _ _ hi, ← get_getD _ _ hj] at this
  exact this
theorem product_eq {p q : List (List Int)} {rows : Int} (hp : partP p rows = true) (hq : partP q rows = true) {L rs : List (List Int)} (hpm : L.Perm (rs.map (grpOf (keyP p q) rows.toNat))) (ho : L.Pairwise (fun p q => lessR q p = false)) (hn : rs.Nodup)
    (hm : ∀ x, R5 x → (x ∈ rs ↔ 2 ≤ (grpOf (keyP p q) rows.toNat x).length)) (h5 : ∀ x ∈ rs, R5 x) (hR : ∀ i r, i < rows.toNat → keyP p q i = some r → R5 r) : L = proS p q rows := by
  rw [proS_eq p q rows hp hq]
  have hrow := partP_rows hp
  have hcl : ∀ a, a < rows.toNat → ∀ r, keyP p q a = some r → prC p q (clsI p (a : Int)).toNat (clsI q (a : Int)).toNat = grpOf (keyP p q) rows.toNat r := by
    intro a ha r hk
    have hk' := hk
    unfold keyP at hk'
    split at hk'
    · next h0 =>
      have h2 := clsI_ge p (a : Int)
      refine ascG_unique (r := fun x y => x < y) (fun x => by omega) (fun x y z => by omega) _ _ (prC_asc q hp (by omega)) (grpOf_asc _ _ _) fun x => ?_
      rw [prC_mem hp hq h0.1 h0.2, grpOf_mem]
      constructor
      · rintro ⟨h3, h4⟩
        have hx : x ∈ p.getD (clsI p x).toNat [] := (clsI_part hp (by omega)).2 (by omega)
        obtain ⟨t, ht, e⟩ := mem_getD'.mp hx
        have hb := ((partP_iff.mp hp).2 _ (by omega)).2.2.1 t ht
        rw [← e] at hb
        refine ⟨x.toNat, by omega, (keyP_same hk).2 ?_, by omega⟩
        rw [show ((x.toNat : Nat) : Int) = x by omega]
        exact ⟨h3, h4⟩
      · rintro ⟨i, h3, h4, rfl⟩
        exact (keyP_same hk).1 h4
    · cases hk'
  refine groups_eq hR hpm ho hn hm h5 (fun a ha => ?_) (fun a ha r hk _ => hcl a ha r hk)
  rw [Bool.and_eq_true, decide_eq_true_eq]
  unfold rep2
  rw [Bool.and_eq_true, decide_eq_true_eq, Bool.not_eq_true']
  constructor
  · rintro ⟨⟨h0, h1⟩, h2⟩
    have hk : keyP p q a = some [clsI p (a : Int), clsI q (a : Int), 0, 0, 0] := by unfold keyP; rw [if_pos h0]
    refine ⟨_, hk, fun b hb e => ?_, by rw [← hcl a ha _ hk]; omega⟩
    rw [List.any_eq_false] at h1
    exact h1 b (List.mem_range.mpr hb) (decide_eq_true ((keyP_same hk).1 e))
  · rintro ⟨r, hk, hf, hlen⟩
    have hk' := hk
    unfold keyP at hk'
    split at hk'
    · next h0 =>
      refine ⟨⟨h0, ?_⟩, by rw [hcl a ha r hk]; omega⟩
      rw [List.any_eq_false]
      intro b hb hd
      exact hf b (List.mem_range.mp hb) ((keyP_same hk).2 (of_decide_eq_true hd))
    · cases hk'
end Go.Proofs.YtfndnaldgaaieaaGreatDoor
namespace Go.Proofs.YtfndnaldgaaieaaGreatDoor
open Go.RowKit

/-- The block b holds the values r, and 0 behind them, in five cells. -/
def RecAt (w : World) (b : Nat) (r : List Int) : Prop := ∀ j, j < 5 → w.cell? ⟨b, j, none⟩ = some (.int .i64 (r.getD j 0)) ∧ w.frozen? ⟨b, j, none⟩ = false
theorem RecAt.kept {w w' : World} {b C : Nat} {r : List Int} (h : RecAt w b r) (hb : Below C w w') (hC : b < C) : RecAt w' b r := fun j hj => ⟨(hb.cell hC).trans (h j hj).1, (hb.frozen hC).trans (h j hj).2⟩
theorem getD_end (l : List Int) (j : Nat) (h : l.length ≤ j) : l.getD j 0 = 0 := by rw [List.getD_eq_getElem?_getD, List.getElem?_eq_none h]; rfl
theorem getD_app (l : List Int) (x : Int) (j : Nat) : (l ++ [x]).getD j 0 = if j = l.length then x else l.getD j 0 := by
  by_cases h : j < l.length + 1
  · rw [getD_snoc _ _ _ _ h]
    by_cases h2 : j = l.length
    · simp [h2]
    · rw [if_pos (by omega), if_neg h2]
  · rw [if_neg (by omega), getD_end l j (by omega), getD_end (l ++ [x]) j (by rw [List.length_append, List.length_singleton]; omega)]
theorem RecAt.store {w : World} {b : Nat} {l : List Int} (h : RecAt w b l) (x : Int) (h5 : l.length < 5) : RecAt (w.setCell ⟨b, l.length, none⟩ (.int .i64 x)) b (l ++ [x]) := by
  intro j hj
  rw [getD_app, World.frozen?_setCell]
  refine ⟨?_, (h j hj).2⟩
  by_cases hjl : j = l.length
  · subst hjl
    rw [if_pos rfl]
    exact World.cell?_setCell_same _ _ _ (h _ h5).1
  · rw [if_neg hjl]
    exact (World.cell?_setCell_other _ _ _ _ (by intro e; simp only [Addr.mk.injEq] at e; omega)).trans (h j hj).1
theorem RecAt.drewN {w : World} {b : Nat} {l : List Int} (h : RecAt w b l) (n : Nat) : RecAt (w.drewN n) b l := fun j hj => h j hj
theorem RecAt.fresh (w : World) : RecAt (w.alloc (.cells #[.int .i64 0, .int .i64 0, .int .i64 0, .int .i64 0, .int .i64 0] 59)) w.heap.size [] := by
  intro j hj
  rw [show ([] : List Int).getD j 0 = 0 by simp]
  refine ⟨?_, ?_⟩
  · rw [World.cell?_alloc_mark w #[.int .i64 0, .int .i64 0, .int .i64 0, .int .i64 0, .int .i64 0] 59 (0, 0) j]
    rcases (show j = 0 ∨ j = 1 ∨ j = 2 ∨ j = 3 ∨ j = 4 by omega) with rfl | rfl | rfl | rfl | rfl <;> rfl
  · exact World.frozen?_alloc_new _ _ _ _
set_option maxHeartbeats 1600000 in
theorem recordOf_any (v vc : Value) (r cs : List Int) (w : World) (hr : ReadI w v r) (hc : ReadI w vc cs) (h5 : cs.length ≤ 5) (hin : ∀ x ∈ cs, 0 ≤ x ∧ x < (r.length : Int)) :
    Calls Tryz.prog 33 #[v, vc] w fun e w' => ∃ b, e = .returned (.pointer (some ⟨b, 0, none⟩)) ∧ RecAt w' b (cs.map fun k => r.getD k.toNat 0) ∧ w.heap.size ≤ b ∧ b < w'.heap.size ∧ Below w.heap.size w w' := by
  obtain ⟨a, cap, rfl, ha⟩ := hr
  obtain ⟨a', cap', rfl, ha'⟩ := hc
  have HA := Lib.hid ha
  have HA' := Lib.hid ha'
  have HIN := Lib.hid hin
  clear ha ha' hin
  have hb1 := (Below.refl w.heap.size w).alloc (Nat.le_refl _) (.cells #[.int .i64 0, .int .i64 0, .int .i64 0, .int .i64 0, .int .i64 0] 59)
  have hrec := RecAt.fresh w
  have hsz : w.heap.size < (w.alloc (.cells #[.int .i64 0, .int .i64 0, .int .i64 0, .int .i64 0, .int .i64 0] 59)).heap.size := by simp
  go_enter Tryz.func33, Tryz.ntmps33
  go_wp2_with fail
  go_loopw [11] (fun iv wr => ∃ (k : Nat) (l : List Int), k ≤ cs.length ∧ iv = .int .i64 (k : Int) ∧ Hid (l = (cs.take k).map fun k => r.getD k.toNat 0) ∧ RecAt wr w.heap.size l ∧ w.heap.size < wr.heap.size ∧ Below w.heap.size w wr) (fun iv _ => cs.length - (intOf iv).toNat)
  case atStart => exact ⟨0, [], by omega, rfl, Lib.hid rfl, hrec, hsz, hb1⟩
  case round =>
    clear hrec hsz hb1
    obtain ⟨k, l, hk, rfl, hL, hrec, hsz, hb⟩ := hrel
    have hll : l.length = k := by rw [hL.out, List.length_map, List.length_take]; omega
    by_cases hlt : k < cs.length
    · obtain ⟨x', rfl, hx'⟩ := HA'.out k hlt
      have hin := HIN.out cs[k] (List.getElem_mem _)
      obtain ⟨q, hq⟩ : ∃ q : Nat, cs[k] = (q : Int) := ⟨cs[k].toNat, by omega⟩
      rw [hq] at hin hx'
      obtain ⟨x, rfl, hx⟩ := HA.out q (by omega)
      have hgd := get_getD r q (by omega)
      rw [hgd] at hx
      have hy := (hb.cell (World.block_lt_of_cell? w _ hx)).trans hx
      have hy' := (hb.cell (World.block_lt_of_cell? w _ hx')).trans hx'
      have HS := Lib.hid (map_take_succ cs (fun k => r.getD k.toNat 0) 0 k hlt)
      have hgc := get_getD cs k hlt
      rw [← hgc, hq, show ((q : Nat) : Int).toNat = q from rfl] at HS
      obtain ⟨y, hyy⟩ : ∃ y, r.getD q 0 = y := ⟨_, rfl⟩
      rw [hyy] at hy HS
      have z0 : (0 : Int) ≤ (k : Int) := by omega
      have z1 : (k : Int) < (cs.length : Int) := by omega
      have z2 : (k : Int) < 5 := by omega
      have z3 : (0 : Int) ≤ (q : Int) := by omega
      have z4 : (q : Int) < (r.length : Int) := by omega
      obtain ⟨hcell, hfz⟩ := hrec k (by omega)
      have HR := Lib.hid hrec
      have HB := Lib.hid hb
      have HLL := Lib.hid hll
      clear hx hx' hyy hgd hgc hq hrec hb hll hin
      go_wp2_with fail
      go_region
      go_wp2_with fail
      go_roundw
      case rel =>
        have hs := HR.out.store y (by rw [HLL.out]; omega)
        rw [HLL.out] at hs
        exact ⟨k + 1, _, by omega, by go_num, Lib.hid (by rw [HS.out, hL.out]), hs.drewN 1, by simpa using hsz, (HB.out.setCell (Nat.le_refl _) _).drew⟩
      case measure => simp [intOf]; omega
    · obtain rfl : k = cs.length := by omega
      go_wp2_with fail
      go_ret
      exact ⟨_, rfl, by have := hL.out; rw [List.take_length] at this; rw [← this]; exact hrec, Nat.le_refl _, hsz, hb⟩
/-- A record, read as a slice of five ints. -/
def pad5 (r : List Int) : List Int := (List.range 5).map fun j => r.getD j 0
theorem pad5_get (r : List Int) (j : Nat) (h : j < (pad5 r).length) : (pad5 r)[j] = r.getD j 0 := by simp [pad5]
theorem pad5_len (r : List Int) : (pad5 r).length = 5 := by simp [pad5]
theorem RecAt.read {w : World} {b : Nat} {r : List Int} (h : RecAt w b r) : ReadI w (.slice (some ⟨b, 0, none⟩) 5 5) (pad5 r) := by
  refine ⟨some ⟨b, 0, none⟩, 5, by rw [pad5_len], fun i hi => ⟨_, rfl, ?_⟩⟩
  rw [add_zero_off, (h i (by rw [pad5_len] at hi; exact hi)).1, pad5_get]
end Go.Proofs.YtfndnaldgaaieaaGreatDoor
namespace Go.Proofs.YtfndnaldgaaieaaGreatDoor

theorem mem_mems {S : Nat} (hS : S < 32) {x : Int} : x ∈ mems (S : Int) ↔ ∃ j : Nat, j < 5 ∧ bitB S j = true ∧ x = (j : Int) := by
  unfold mems
  rw [if_pos (by omega), show ((S : Int)).toNat = S by omega]
  unfold memN
  rw [List.mem_map]
  constructor
  · rintro ⟨j, hj, rfl⟩
    rw [List.mem_filter, List.mem_range] at hj
    exact ⟨j, hj.1, hj.2, rfl⟩
  · rintro ⟨j, h1, h2, rfl⟩
    exact ⟨j, by rw [List.mem_filter, List.mem_range]; exact ⟨h1, h2⟩, rfl⟩
theorem bit_low : ∀ (c : Fin 6) (S : Fin 32) (j : Fin 5), S.val < 2 ^ c.val → bitB S.val j.val = true → j.val < c.val := by decide +kernel
theorem pad5_inj {r s : List Int} (h : r.length = s.length) (h5 : r.length ≤ 5) (he : pad5 r = pad5 s) : r = s := by
  apply List.ext_getElem h
  intro i h1 h2
  have e1 := pad5_get r i (by rw [pad5_len]; omega)
  have e2 := pad5_get s i (by rw [pad5_len]; omega)
  have e3 : (pad5 r)[i]'(by rw [pad5_len]; omega) = (pad5 s)[i]'(by rw [pad5_len]; omega) := by simp only [he]
  rw [e1, e2, ← get_getD r i h1, ← get_getD s i h2] at e3
  exact e3
/-- The record of the columns S of row i. -/
def recC (ll : List (List Int)) (S i : Nat) : List Int := (mems (S : Int)).map fun k => (ll.getD i []).getD k.toNat 0
/-- The key of a row: its record, if it is equal to itself. -/
def keyT (c : Nat) (ll : List (List Int)) (m : Int) (S i : Nat) : Option (List Int) := if agB c ll m (S : Int) i i = true then some (pad5 (recC ll S i)) else none
theorem rec_eq {ll : List (List Int)} {S i k : Nat} (hS : S < 32) : pad5 (recC ll S i) = pad5 (recC ll S k) ↔ ∀ j, j < 5 → bitB S j = true → (ll.getD i []).getD j 0 = (ll.getD k []).getD j 0 := by
  constructor
  · intro h j hj hb
    have h1 := pad5_inj (by simp [recC]) (by unfold recC; rw [List.length_map]; exact mems_len _) h
    unfold recC at h1
    have := List.map_inj_left.1 h1 (j : Int) ((mem_mems hS).2 ⟨j, hj, hb, rfl⟩)
    rw [show ((j : Int)).toNat = j by omega] at this
    exact this
  · intro h
    congr 1
    unfold recC
    apply List.map_congr_left
    intro x hx
    obtain ⟨j, h1, h2, rfl⟩ := (mem_mems hS).1 hx
    rw [show ((j : Int)).toNat = j by omega]
    exact h j h1 h2
theorem pow_lt32 {c S : Nat} (hc : c ≤ 5) (hS : S < 2 ^ c) : S < 32 := by
  have : 2 ^ c ≤ 32 := by
    rcases (show c = 0 ∨ c = 1 ∨ c = 2 ∨ c = 3 ∨ c = 4 ∨ c = 5 by omega) with rfl | rfl | rfl | rfl | rfl | rfl <;> decide
  omega
theorem eqC_of {m a b : Int} (h : eqC m a a = true) (he : a = b) : eqC m a b = true := by subst he; exact h
theorem eqC_val {m a b : Int} (h : eqC m a b = true) : a = b := by
  unfold eqC at h; simp only [decide_eq_true_eq] at h; exact h.2.1
/-- Two rows have one key if they agree. -/
theorem key_agree {c : Nat} {ll : List (List Int)} {m : Int} {S a b : Nat} {r : List Int} (hc : c ≤ 5) (hS : S < 2 ^ c) (hk : keyT c ll m S a = some r) : keyT c ll m S b = some r ↔ agB c ll m (S : Int) a b = true := by
  have h32 := pow_lt32 hc hS
  unfold keyT at *
  split at hk
  · next ha =>
    have hk' := (Option.some.inj hk).symm
    subst hk'
    have ha' := (agB_iff c ll m S a a hc hS).1 ha
    constructor
    · intro hb
      split at hb
      · have he := (rec_eq h32).1 (Option.some.inj hb)
        rw [agB_iff c ll m S _ _ hc hS]
        intro j hj hbit
        exact eqC_of (ha' j hj hbit) (he j (by omega) hbit).symm
      · cases hb
    · intro hab
      have hbb := agB_trans hc hS (agB_symm hc hS hab) hab
      rw [if_pos hbb]
      congr 1
      refine (rec_eq h32).2 fun j hj hbit => ?_
      have hjc := bit_low ⟨c, by omega⟩ ⟨S, h32⟩ ⟨j, hj⟩ hS hbit
      exact (eqC_val ((agB_iff c ll m S a b hc hS).1 hab j hjc hbit)).symm
  · cases hk
theorem pad5_r5 {r : List Int} (h : ∀ x ∈ r, -1 ≤ x ∧ x ≤ 40) : R5 (pad5 r) := by
  refine ⟨pad5_len r, fun j hj => ?_⟩
  rw [← get_getD (pad5 r) j (by rw [pad5_len]; exact hj), pad5_get]
  refine Go.WalkArith.wf_i64 ?_
  by_cases hjl : j < r.length
  · have := h (r.getD j 0) (by rw [← get_getD r j hjl]; exact List.getElem_mem _)
    omega
  · rw [getD_end r j (by omega)]; omega
theorem recC_bd {c : Int} {ll : List (List Int)} {S i : Nat} (hT : isT c ll = true) (hS : S < 2 ^ c.toNat) (hi : i < ll.length) : ∀ x ∈ recC ll S i, -1 ≤ x ∧ x ≤ 40 := by
  obtain ⟨c1, c5, -⟩ := isT_bd hT
  intro x hx
  unfold recC at hx
  obtain ⟨k, hk, rfl⟩ := List.mem_map.1 hx
  obtain ⟨j, h1, h2, rfl⟩ := (mem_mems (pow_lt32 (by omega) hS)).1 hk
  obtain ⟨hl, hb⟩ := isT_row hT hi
  have hjc := bit_low ⟨c.toNat, by omega⟩ ⟨S, pow_lt32 (by omega) hS⟩ ⟨j, h1⟩ hS h2
  simp only at hjc
  rw [show ((j : Int)).toNat = j by omega]
  exact hb _ (by rw [← get_getD _ j (by omega)]; exact List.getElem_mem _)
theorem mems_in {c : Int} {ll : List (List Int)} {S i : Nat} (hT : isT c ll = true) (hS : S < 2 ^ c.toNat) (hi : i < ll.length) : ∀ x ∈ mems (S : Int), 0 ≤ x ∧ x < ((ll.getD i []).length : Int) := by
  obtain ⟨c1, c5, -⟩ := isT_bd hT
  intro x hx
  obtain ⟨j, h1, h2, rfl⟩ := (mem_mems (pow_lt32 (by omega) hS)).1 hx
  obtain ⟨hl, -⟩ := isT_row hT hi
  have hjc := bit_low ⟨c.toNat, by omega⟩ ⟨S, pow_lt32 (by omega) hS⟩ ⟨j, h1⟩ hS h2
  simp only at hjc
  omega
end Go.Proofs.YtfndnaldgaaieaaGreatDoor
namespace Go.Proofs.YtfndnaldgaaieaaGreatDoor

theorem rowsC_asc (c : Nat) (ll : List (List Int)) (m s : Int) (i : Nat) : ∀ n, (rowsC c ll m s i n).Pairwise (fun a b => a < b)
  | 0 => by simp [rowsC]
  | n + 1 => by
    have ih := rowsC_asc c ll m s i n
    unfold rowsC
    split
    · rw [List.pairwise_append]
      refine ⟨ih, by simp, fun x hx y hy => ?_⟩
      rw [List.mem_singleton] at hy
      subst hy
      rw [rowsC_mem] at hx
      rcases hx with rfl | ⟨k, h1, h2, -, rfl⟩ <;> omega
    · exact ih
theorem clsC_grp {c : Nat} {ll : List (List Int)} {m : Int} {S a : Nat} {r : List Int} (hc : c ≤ 5) (hS : S < 2 ^ c) (ha : a < ll.length) (hk : keyT c ll m S a = some r) (hf : ∀ b, b < a → keyT c ll m S b ≠ some r) : clsC c ll m (S : Int) a = grpOf (keyT c ll m S) ll.length r := by
  refine ascG_unique (r := fun x y => x < y) (fun x => by omega) (fun x y z => by omega) _ _ (rowsC_asc _ _ _ _ _ _) (grpOf_asc _ _ _) fun x => ?_
  rw [clsC_mem c ll m _ a ha, grpOf_mem]
  constructor
  · rintro (rfl | ⟨k, h1, h2, h3, rfl⟩)
    · exact ⟨a, ha, hk, rfl⟩
    · exact ⟨k, h2, (key_agree hc hS hk).2 h3, rfl⟩
  · rintro ⟨i, h1, h2, rfl⟩
    rcases Nat.lt_trichotomy i a with h | rfl | h
    · exact (hf i h h2).elim
    · exact .inl rfl
    · exact .inr ⟨i, h, h1, (key_agree hc hS hk).1 h2, rfl⟩
theorem table_eq {c m : Int} {ll : List (List Int)} {S : Nat} (hf : fineT c ll m = true) (hs : isA c (S : Int) = true) (hS : S < 2 ^ c.toNat) {L rs : List (List Int)} (hpm : L.Perm (rs.map (grpOf (keyT c.toNat ll m S) ll.length)))
    (ho : L.Pairwise (fun p q => lessR q p = false)) (hn : rs.Nodup) (hm : ∀ x, R5 x → (x ∈ rs ↔ 2 ≤ (grpOf (keyT c.toNat ll m S) ll.length x).length)) (h5 : ∀ x ∈ rs, R5 x) : L = prtS c ll m (S : Int) := by
  rw [prtS_eq c ll m _ hf hs]
  have hT : isT c ll = true := by unfold fineT at hf; simp at hf; exact hf.1
  obtain ⟨c1, c5, -⟩ := isT_bd hT
  have hc : c.toNat ≤ 5 := by omega
  refine groups_eq (fun i r hi hk => ?_) hpm ho hn hm h5 (fun a ha => ?_) (fun a ha r hk hfst => clsC_grp hc hS ha hk hfst)
  · unfold keyT at hk
    split at hk
    · cases hk
      exact pad5_r5 (recC_bd hT hS hi)
    · cases hk
  · rw [Bool.and_eq_true, decide_eq_true_eq]
    have hrep : ∀ r, keyT c.toNat ll m S a = some r → (repB c.toNat ll m (S : Int) a = true ↔ ∀ b, b < a → keyT c.toNat ll m S b ≠ some r) := by
      intro r hk
      unfold repB
      rw [Bool.not_eq_true', List.any_eq_false]
      constructor
      · intro h b hb e
        exact h b (List.mem_range.mpr hb) (agB_symm hc hS ((key_agree hc hS hk).1 e))
      · intro h b hb e
        exact h b (List.mem_range.mp hb) ((key_agree hc hS hk).2 (agB_symm hc hS e))
    constructor
    · rintro ⟨h1, h2⟩
      have haa : agB c.toNat ll m (S : Int) a a = true := by
        cases hq : clsC c.toNat ll m (S : Int) a with
        | nil => rw [hq] at h2; simp at h2
        | cons x t =>
          cases t with
          | nil => rw [hq] at h2; simp at h2
          | cons y t =>
            have hx := (clsC_mem c.toNat ll m (S : Int) a ha x).1 (by rw [hq]; simp)
            have hy := (clsC_mem c.toNat ll m (S : Int) a ha y).1 (by rw [hq]; simp)
            have hxy : x < y := by
              have := rowsC_asc c.toNat ll m (S : Int) a (ll.length - (a + 1))
              unfold clsC at hq
              rw [hq, List.pairwise_cons] at this
              exact this.1 y (by simp)
            rcases hy with rfl | ⟨k, -, -, h, -⟩
            · rcases hx with rfl | ⟨k, h3, -, -, rfl⟩ <;> omega
            · exact agB_trans hc hS h (agB_symm hc hS h)
      have hk : keyT c.toNat ll m S a = some (pad5 (recC ll S a)) := by unfold keyT; rw [if_pos haa]
      have hfst := (hrep _ hk).1 h1
      exact ⟨_, hk, hfst, by rw [← clsC_grp hc hS ha hk hfst]; omega⟩
    · rintro ⟨r, hk, hfst, h2⟩
      exact ⟨(hrep r hk).2 hfst, by rw [clsC_grp hc hS ha hk hfst]; omega⟩
end Go.Proofs.YtfndnaldgaaieaaGreatDoor
namespace Go.Proofs.YtfndnaldgaaieaaGreatDoor
open Go.RowKit
open Go.Maps (Keyed)

theorem keyI : Keyed Tryz.prog 3 := Go.Maps.int_keyed Tryz.underlying3
theorem zeroI (w : World) : (zeroValue 3).run Tryz.prog w = .ok (.int .i64 0) w := by kernel_rfl
/-- Block b is a map of at most n entries that has f's values at f's keys. -/
def MapI (w : World) (b n : Nat) (f : Int → Option Int) : Prop :=
  ∃ D : DataW Unit, w.ownsMap Tryz.prog 3 (plainElem Tryz.prog 3) b n D ∧ ∀ x, (Lit.int .i64 x).wf = true → Maps.has D (.int .i64 x) = (f x).isSome ∧ D.atKey (.int .i64 x) (.lit (.int .i64 0)) = .lit (.int .i64 ((f x).getD 0))
theorem MapI.made (w : World) : MapI (w.alloc (.map #[] 0)) w.heap.size 0 (fun _ => none) :=
  ⟨.map [], World.ownsMap_made _ _ _ _, fun _ _ => ⟨rfl, rfl⟩⟩
theorem MapI.mono {w : World} {b n n' : Nat} {f : Int → Option Int} (h : MapI w b n f) (hn : n ≤ n') : MapI w b n' f := by
  obtain ⟨D, h1, h2⟩ := h; exact ⟨D, h1.mono hn, h2⟩
theorem MapI.congr {w : World} {b n : Nat} {f g : Int → Option Int} (h : MapI w b n f) (hn : ∀ x, f x = g x) : MapI w b n g := by
  obtain ⟨D, h1, h2⟩ := h; exact ⟨D, h1, fun x hx => by rw [← hn x]; exact h2 x hx⟩
theorem MapI.lt {w : World} {b n : Nat} {f : Int → Option Int} (h : MapI w b n f) : b < w.heap.size := by
  obtain ⟨D, h1, -⟩ := h; exact h1.lt
theorem MapI.kept {w w' : World} {b n : Nat} {f : Int → Option Int} {row : Option Nat} (h : MapI w b n f) (hg : w.grownBy w' row) (hne : some b ≠ row) : MapI w' b n f := by
  obtain ⟨D, h1, h2⟩ := h; exact ⟨D, h1.kept hg hne, h2⟩
theorem MapI.below {w w' : World} {b n C : Nat} {f : Int → Option Int} (h : MapI w b n f) (hb : Below C w w') (hC : b < C) : MapI w' b n f := by
  obtain ⟨D, h1, h2⟩ := h
  obtain ⟨es, clock, h3, r⟩ := h1
  exact ⟨D, ⟨es, clock, (hb.block b hC).trans h3, r⟩, h2⟩
section
variable (w : World) {ops : Array Oper} {rest : List Oper} {o : Oper} {a : Act} {Q : Exit → Act → World → Prop}
theorem mapI_look_some (hg : o.guard = none) (m x : Operand) (hop : o.op = Op.lookup 70 m x true) (b n : Nat) (f : Int → Option Int) (hm : a.eval m = .map (some b)) (h : MapI w b n f) (y c : Int) (hx : a.eval x = .int .i64 y) (hw : (Lit.int .i64 y).wf = true) (hf : f y = some c)
    (hK : wpList Tryz.prog ops Q rest (a.put o.dst (.tuple #[.int .i64 c, .bool true])) w) : wpList Tryz.prog ops Q (o :: rest) a w := by
  obtain ⟨D, h1, h2⟩ := h
  refine wpList_lookup_own_ok_int w hg m x 70 hop 3 3 .i64 keyI Tryz.underlying70 Tryz.underlying3 (zeroI w) b n D hm h1 _ (.int .i64 y) hx (Go.Maps.keyOf_int_mk Tryz.underlying3 hw) (fun d hd _ => ?_)
  obtain ⟨e1, e2⟩ := h2 y hw
  rw [hf] at e1 e2
  rw [e2] at hd
  cases hd
  rw [e1]
  exact hK
theorem mapI_look_none (hg : o.guard = none) (m x : Operand) (hop : o.op = Op.lookup 70 m x true) (b n : Nat) (f : Int → Option Int) (hm : a.eval m = .map (some b)) (h : MapI w b n f) (y : Int) (hx : a.eval x = .int .i64 y) (hw : (Lit.int .i64 y).wf = true) (hf : f y = none)
    (hK : wpList Tryz.prog ops Q rest (a.put o.dst (.tuple #[.int .i64 0, .bool false])) w) : wpList Tryz.prog ops Q (o :: rest) a w := by
  obtain ⟨D, h1, h2⟩ := h
  refine wpList_lookup_own_ok_int w hg m x 70 hop 3 3 .i64 keyI Tryz.underlying70 Tryz.underlying3 (zeroI w) b n D hm h1 _ (.int .i64 y) hx (Go.Maps.keyOf_int_mk Tryz.underlying3 hw) (fun d hd _ => ?_)
  obtain ⟨e1, e2⟩ := h2 y hw
  rw [hf] at e1 e2
  rw [e2] at hd
  cases hd
  rw [e1]
  exact hK
theorem mapI_run {w : World} {b n : Nat} {f : Int → Option Int} (h : MapI w b n f) (y : Int) (hw : (Lit.int .i64 y).wf = true) : (Instr.lookup 70 (.map (some b)) (.int .i64 y) false).run Tryz.prog w = .ok (.int .i64 ((f y).getD 0)) w := by
  obtain ⟨D, h1, h2⟩ := h
  obtain ⟨c, hrun, hat, -⟩ := h1.lookup_int keyI Tryz.underlying70 Tryz.underlying3 (zeroI w) (Go.Maps.keyOf_int_mk Tryz.underlying3 hw)
  rw [(h2 y hw).2] at hat
  cases hat
  exact hrun
theorem mapI_store (hg : o.guard = none) (m x v : Operand) (hop : o.op = Op.mapUpdate 70 m x v) (b n : Nat) (f : Int → Option Int) (hm : a.eval m = .map (some b)) (h : MapI w b n f) (hn : n < maxLen) (y c : Int) (hx : a.eval x = .int .i64 y) (hv : a.eval v = .int .i64 c) (hw : (Lit.int .i64 y).wf = true) (hwc : (Lit.int .i64 c).wf = true)
    (hK : ∀ w', MapI w' b (n + 1) (fun z => if z = y then some c else f z) → w.grownBy w' (some b) → wpList Tryz.prog ops Q rest (a.put o.dst undef) w') : wpList Tryz.prog ops Q (o :: rest) a w := by
  obtain ⟨D, h1, h2⟩ := h
  refine wpList_mapUpdate_own w hg m x v 70 hop 3 3 keyI Tryz.underlying70 _ b n D hm h1 hn _ _ (.int .i64 y) hx hv (Go.Maps.keyOf_int_mk Tryz.underlying3 hw) _ [] (plainElem_int Tryz.underlying3 hwc) (fun w' hown hgr => hK w' ⟨_, hown, fun z hz => ?_⟩ hgr)
  by_cases hzy : z = y
  · subst hzy
    rw [Go.Maps.has_put_same h1.isMap (keyI.key (Go.Maps.keyOf_int_mk Tryz.underlying3 hw)), Go.Maps.atKey_put_same h1.isMap (keyI.key (Go.Maps.keyOf_int_mk Tryz.underlying3 hw))]
    simp
  · have hne : (Lit.int .i64 z) ≠ (Lit.int .i64 y) := fun e => hzy (by cases e; rfl)
    rw [Go.Maps.has_put_other hne, Go.Maps.atKey_put_other hne]
    simpa only [if_neg hzy] using h2 z hz
end
end Go.Proofs.YtfndnaldgaaieaaGreatDoor
namespace Go.Proofs.YtfndnaldgaaieaaGreatDoor
open Go.RowKit

set_option maxHeartbeats 800000 in
theorem implErrorOf_one (v : Value) (ll : List (List Int)) (w : World) (hr : ReadSS w v ll) (hl : ll.length ≤ 1048576) (ht : ∀ i, i < ll.length → (ll.getD i []).length ≤ 1048576) :
    Calls Tryz.prog 15 #[v] w fun e w' => e = .returned (.int .i64 (errTo ll ll.length)) ∧ w = w' := by
  obtain ⟨a, cap, rfl, ha⟩ := hr
  have HA := Lib.hid ha
  have HT := Lib.hid ht
  have HB := Lib.hid (errTo_bd ll ht)
  clear ha ht
  go_enter Tryz.func15, Tryz.ntmps15
  go_wp2_with fail
  go_loop [3, 8] (fun sv iv => ∃ k : Nat, k ≤ ll.length ∧ iv = .int .i64 (k : Int) ∧ sv = .int .i64 (errTo ll k)) (fun _ iv => ll.length - (intOf iv).toNat)
  case atStart => exact ⟨0, by omega, rfl, rfl⟩
  case round =>
    obtain ⟨k, hk, rfl, rfl⟩ := hrel
    by_cases hlt : k < ll.length
    · obtain ⟨xa, u, rfl, hx, hu⟩ := HA.out k hlt
      obtain ⟨au, cu, rfl, -⟩ := hu
      have hlr := HT.out k hlt
      have hbd := HB.out k hk
      have HS : Hid (errTo ll (k + 1) = errTo ll k + max 0 (((ll.getD k []).length : Int) - 1)) := Lib.hid rfl
      obtain ⟨E, hE⟩ : ∃ E, E = errTo ll k := ⟨_, rfl⟩
      obtain ⟨R, hR⟩ : ∃ R, R = (ll.getD k []).length := ⟨_, rfl⟩
      rw [← hE] at hbd HS ⊢
      rw [← hR] at HS hlr hx
      clear hE hR
      have z0 : (0 : Int) ≤ (k : Int) := by omega
      have z1 : (k : Int) < (ll.length : Int) := by omega
      go_wp2_with fail
      go_round
      case rel => exact ⟨k + 1, by omega, by go_num, by rw [HS.out] <;> first | (congr 2; split <;> omega) | (congr 2; omega) | (congr 2; exact Int.max_comm _ _) | (congr 2; done) | rfl⟩
      case measure => simp [intOf]; omega
    · obtain rfl : k = ll.length := by omega
      go_wp2_with fail
      go_ret
      exact ⟨rfl, rfl⟩
theorem implErrorOf_any (v : Value) (p : List (List Int)) (w : World) (hr : ReadSS w v p) (hl : p.length ≤ 1048576) (ht : tot p ≤ 1048576) :
    Calls Tryz.prog 15 #[v] w fun e w' => e = .returned (.int .i64 (errTo p p.length)) ∧ Below w.heap.size w w' :=
  (implErrorOf_one v p w hr hl (fun i hi => by have := tot_get hi; omega)).mono fun _ _ ⟨a, b⟩ => ⟨a, by rw [← b]; exact Below.refl _ _⟩

/-- At least two rows, all from 0 on and below rows, in ascending order: place by place. -/
def inC (rows : Int) (r : List Int) (k : Nat) : Bool := decide ((if k = 0 then 0 else r.getD (k - 1) 0 + 1) ≤ r.getD k 0 ∧ r.getD k 0 < rows)
def isC (rows : Int) (r : List Int) : Bool := decide (2 ≤ r.length) && (List.range r.length).all (inC rows r)
def leastC (r : List Int) : Nat → Int
  | 0 => 0
  | k + 1 => r.getD k 0 + 1
theorem range_snoc {p : Nat → Bool} {k : Nat} (h : (List.range k).all p = true) (hp : p k = true) : (List.range (k + 1)).all p = true := by
  rw [List.range_succ, List.all_append, h]; simp [hp]
theorem range_not {p : Nat → Bool} {k n : Nat} (hk : k < n) (hp : p k = false) : (List.range n).all p = false := by
  cases h : (List.range n).all p with
  | false => rfl
  | true => have := List.all_eq_true.1 h k (List.mem_range.2 hk); rw [hp] at this; cases this
set_option maxHeartbeats 1600000 in
theorem isClass_any (v : Value) (r : List Int) (rows : Int) (w : World) (hr : ReadI w v r) (hl : r.length ≤ 1048576) (h1 : rows ≤ 40) :
    Calls Tryz.prog 48 #[v, .int .i64 rows] w fun e w' => e = .returned (.bool (isC rows r)) ∧ w = w' := by
  obtain ⟨a, cap, rfl, ha⟩ := hr
  have HA := Lib.hid ha
  clear ha
  by_cases h2 : r.length < 2
  · have hx : (r.length : Int) < 2 := by omega
    have HX : Hid (isC rows r = false) := Lib.hid (by unfold isC; rw [decide_eq_false (by omega)]; rfl)
    go_enter Tryz.func48, Tryz.ntmps48
    go_wp2_with fail
    go_ret
    exact ⟨ret_b HX.out, rfl⟩
  · have hx : ¬ (r.length : Int) < 2 := by omega
    have HY : Hid ((List.range r.length).all (inC rows r) = true → isC rows r = true) := Lib.hid (fun h => by unfold isC; rw [decide_eq_true (by omega), h]; rfl)
    have HN : Hid ((List.range r.length).all (inC rows r) = false → isC rows r = false) := Lib.hid (fun h => by unfold isC; rw [h]; simp)
    go_enter Tryz.func48, Tryz.ntmps48
    go_wp2_with fail
    go_loop [5, 13] (fun sv iv => ∃ k : Nat, k ≤ r.length ∧ iv = .int .i64 (k : Int) ∧ (∃ l : Int, sv = .int .i64 l ∧ 0 ≤ l ∧ l ≤ 40 ∧ Hid (l = leastC r k)) ∧ Hid ((List.range k).all (inC rows r) = true)) (fun _ iv => r.length - (intOf iv).toNat)
    case atStart => exact ⟨0, by omega, rfl, ⟨0, rfl, by omega, by omega, Lib.hid rfl⟩, Lib.hid rfl⟩
    case round =>
      obtain ⟨k, hk, rfl, ⟨l, rfl, hl0, hl40, hL⟩, hall⟩ := hrel
      by_cases hlt : k < r.length
      · obtain ⟨xr, rfl, hxk⟩ := HA.out k hlt
        have HI : Hid (inC rows r k = decide (l ≤ r.getD k 0 ∧ r.getD k 0 < rows)) := Lib.hid (by
          unfold inC; rw [hL.out]; cases k with
          | zero => rfl
          | succ n => rfl)
        have HL : Hid (leastC r (k + 1) = r.getD k 0 + 1) := Lib.hid rfl
        rw [get_getD r k hlt] at hxk
        obtain ⟨y, hy⟩ : ∃ y, y = r.getD k 0 := ⟨_, rfl⟩
        rw [← hy] at hxk HI HL
        clear hy
        have z0 : (0 : Int) ≤ (k : Int) := by omega
        have z1 : (k : Int) < (r.length : Int) := by omega
        by_cases hc1 : y < l
        · have HX : Hid (isC rows r = false) := Lib.hid (HN.out (range_not hlt (by rw [HI.out, decide_eq_false]; omega)))
          go_wp2_with fail
          go_ret
          exact ⟨ret_b HX.out, rfl⟩
        · by_cases hc2 : rows ≤ y
          · have HX : Hid (isC rows r = false) := Lib.hid (HN.out (range_not hlt (by rw [HI.out, decide_eq_false]; omega)))
            go_wp2_with fail
            go_ret
            exact ⟨ret_b HX.out, rfl⟩
          · have HX := Lib.hid (range_snoc hall.out (by rw [HI.out, decide_eq_true]; omega))
            have hy1 : 0 ≤ y + 1 := by omega
            have hy2 : y + 1 ≤ 40 := by omega
            have hc3 : ¬ rows ≤ y := hc2
            go_wp2_with fail
            go_round
            case rel => exact ⟨k + 1, by omega, by go_num, ⟨y + 1, by go_num, hy1, hy2, Lib.hid HL.out.symm⟩, HX⟩
            case measure => simp [intOf]; omega
      · obtain rfl : k = r.length := by omega
        have HX := Lib.hid (HY.out hall.out)
        go_wp2_with fail
        go_ret
        exact ⟨ret_b HX.out, rfl⟩
end Go.Proofs.YtfndnaldgaaieaaGreatDoor
