/- A grouping under a range: which groups are left, which were dropped, which were collected. Conditions: none. -/
import Derived.Test.YtkaalgbcdcbgoaaGrp
import Derived.Sort.OwnSorted
namespace Go.Proofs.Ytkaalgbcdcbgoaa
open Go.RowKit
open Go.Maps (Keyed)

/-- A slice reads as itself. -/
def tokS : Value → Option (DataW Value × List MemPlace)
  | .slice a n c => some (.held (.slice a n c), [])
  | _ => none
theorem tokS_inv {v : Value} {y : DataW Value × List MemPlace} (h : tokS v = some y) : ∃ a n c, v = .slice a n c ∧ y = (.held v, []) := by
  cases v <;> simp [tokS] at h
  subst h
  exact ⟨_, _, _, rfl, rfl⟩
def MapS (w : World) (b n : Nat) (D : DataW Value) : Prop := w.ownsMap Try.prog 55 tokS b n D
/-- A key is there, with one value, or not there. -/
theorem has_at {w : World} {b n : Nat} {D : DataW Value} {R : Value → Option (DataW Value × List MemPlace)} (h : w.ownsMap Try.prog 55 R b n D) {r : List Int} (hr : R5 r) : (Maps.has D (klR r) = false) ∨ ∃ y, ∀ zd, D.atKey (klR r) zd = y := by
  obtain ⟨es, clock, hb, F, hs, rfl⟩ := h
  rcases Maps.fit_look false keyR Try.underlying50 (zeroS w) hb F (keyOf_klR hr) with ⟨-, -, hat⟩ | ⟨e0, y, -, -, -, -, hat, -⟩
  · exact .inl (Maps.has_false_of_atKey hat)
  · exact .inr ⟨_, hat⟩
theorem toS {w : World} {b n : Nat} {D : DataW Value} (h : MapR w b n D) (hsl : ∀ r, R5 r → ∀ v, (∀ zd, D.atKey (klR r) zd = .held v) → ∃ a m c, v = .slice a m c) : MapS w b n D := by
  obtain ⟨es, clock, hb, F, hs, rfl⟩ := h
  refine (World.ownsMap_of_fit (R := tokS) hb F (fun x hx z hz => ?_)).mono hs
  cases hz
  obtain ⟨y, hy⟩ := F.reads x hx
  have hk := Go.WideElems.rd_key hy
  obtain ⟨r, hr, hxk, hkl⟩ := rec_inv hk
  rcases Maps.fit_look false keyR Try.underlying50 (zeroS w) hb F (keyOf_klR hr) with ⟨-, hne, -⟩ | ⟨e0, z, hm0, h3, -, hR, hat, -⟩
  · exact absurd hxk (hne x hx)
  · obtain rfl := entry_eq_of_key ((MapKept.stamped_iff es clock).1 F.stamped).2.2 hm0 hx (h3.trans hxk.symm)
    cases hR
    obtain ⟨a, m, c, e⟩ := hsl r hr _ hat
    rw [e]; rfl
/-- What is in the map while the short groups are dropped: the long ones, and those that are still to come. -/
def PhA (D D' : DataW Value) (V : List Int → Value) (g : List Int → List Int) (left : Lit → Bool) : Prop :=
  Maps.IsMap D' ∧ ∀ x, R5 x → Maps.has D' (klR x) = (Maps.has D (klR x) && (left (klR x) || decide (2 ≤ (g x).length))) ∧ (Maps.has D' (klR x) = true → ∀ zd, D'.atKey (klR x) zd = .held (V x))
theorem strike {left : Lit → Bool} {x x0 : List Int} (hx : R5 x) (h0 : R5 x0) : (left (klR x) && !(klR x).sameKey (klR x0)) = (left (klR x) && !decide (x = x0)) := by
  by_cases h : x = x0
  · subst h
    rw [WideAt.sameKey_self (klR_key hx), decide_eq_true rfl]
  · have : (klR x).sameKey (klR x0) = false := by
      cases hs : (klR x).sameKey (klR x0) with
      | false => rfl
      | true => exact absurd (klR_inj hx h0 (WideAt.sameKey_eq hs)) h
    rw [this, decide_eq_false h]
theorem PhA.start {w : World} {b n : Nat} {D : DataW Value} {V : List Int → Value} {g : List Int → List Int} (h : MapR w b n D) (h3 : ∀ r, R5 r → D.atKey (klR r) (.held nilS) = .held (V r)) : PhA D D V g (Maps.has D) := by
  refine ⟨World.ownsMap.isMap h, fun x hx => ⟨by cases Maps.has D (klR x) <;> simp, fun hh zd => ?_⟩⟩
  rcases has_at h hx with he | ⟨y, hy⟩
  · rw [he] at hh; cases hh
  · rw [hy zd, ← hy (.held nilS)]; exact h3 x hx
theorem PhA.drop {D D' : DataW Value} {V : List Int → Value} {g : List Int → List Int} {left : Lit → Bool} (h : PhA D D' V g left) {x0 : List Int} (h0 : R5 x0) (hs : (g x0).length < 2) : PhA D (D'.del (klR x0)) V g (fun z => left z && !z.sameKey (klR x0)) := by
  refine ⟨h.1.del _, fun x hx => ?_⟩
  obtain ⟨e1, e2⟩ := h.2 x hx
  show Maps.has (D'.del (klR x0)) (klR x) = (Maps.has D (klR x) && ((left (klR x) && !(klR x).sameKey (klR x0)) || _)) ∧ _
  rw [strike hx h0]
  by_cases hxx : x = x0
  · subst hxx
    rw [Go.Maps.has_del_same]
    refine ⟨by simp; omega, fun hh => by cases hh⟩
  · have hne : klR x ≠ klR x0 := fun e => hxx (klR_inj hx h0 e)
    rw [Go.Maps.has_del_other hne]
    refine ⟨by rw [e1]; simp [hxx], fun hh zd => by rw [Go.Maps.atKey_del_other hne]; exact e2 hh zd⟩
theorem PhA.keep {D D' : DataW Value} {V : List Int → Value} {g : List Int → List Int} {left : Lit → Bool} (h : PhA D D' V g left) {x0 : List Int} (h0 : R5 x0) (hs : 2 ≤ (g x0).length) : PhA D D' V g (fun z => left z && !z.sameKey (klR x0)) := by
  refine ⟨h.1, fun x hx => ?_⟩
  obtain ⟨e1, e2⟩ := h.2 x hx
  refine ⟨?_, e2⟩
  show _ = (Maps.has D (klR x) && ((left (klR x) && !(klR x).sameKey (klR x0)) || _))
  rw [strike hx h0, e1]
  by_cases hxx : x = x0
  · subst hxx; simp [hs]
  · simp [hxx]
theorem PhA.stop {D D' : DataW Value} {V : List Int → Value} {g : List Int → List Int} {left : Lit → Bool} (h : PhA D D' V g left) (hl : ∀ kl, left kl = false) (h4 : ∀ r, R5 r → Maps.has D (klR r) = !(g r).isEmpty) :
    ∀ x, R5 x → Maps.has D' (klR x) = decide (2 ≤ (g x).length) ∧ (Maps.has D' (klR x) = true → ∀ zd, D'.atKey (klR x) zd = .held (V x)) := by
  intro x hx
  obtain ⟨e1, e2⟩ := h.2 x hx
  refine ⟨?_, e2⟩
  rw [e1, hl, h4 x hx]
  cases hg : g x with
  | nil => simp
  | cons a t => simp
/-- The records that were collected, and those that are still to come. -/
def PhB (D : DataW Value) (left : Lit → Bool) (rs : List (List Int)) : Prop :=
  rs.Nodup ∧ (∀ x ∈ rs, R5 x ∧ Maps.has D (klR x) = true) ∧ ∀ x, R5 x → left (klR x) = (Maps.has D (klR x) && !decide (x ∈ rs))
theorem PhB.start (D : DataW Value) : PhB D (Maps.has D) [] := ⟨List.nodup_nil, (fun x hx => by cases hx), fun x _ => by simp⟩
theorem PhB.step {D : DataW Value} {left : Lit → Bool} {rs : List (List Int)} (h : PhB D left rs) {x0 : List Int} (h0 : R5 x0) (hl : left (klR x0) = true) : PhB D (fun z => left z && !z.sameKey (klR x0)) (rs ++ [x0]) := by
  obtain ⟨h1, h2, h3⟩ := h
  have h4 := h3 x0 h0
  rw [hl] at h4
  have h4' := h4.symm
  rw [Bool.and_eq_true, Bool.not_eq_true', decide_eq_false_iff_not] at h4'
  refine ⟨?_, fun x hx => ?_, fun x hx => ?_⟩
  · rw [List.nodup_append]
    exact ⟨h1, by simp, fun a ha c hc e => by simp at hc; subst hc; subst e; exact h4'.2 ha⟩
  · rcases List.mem_append.1 hx with h | h
    · exact h2 x h
    · simp at h; subst h; exact ⟨h0, h4'.1⟩
  · show (left (klR x) && !(klR x).sameKey (klR x0)) = _
    rw [strike hx h0, h3 x hx]
    by_cases hxx : x = x0
    · subst hxx; simp
    · simp [hxx]
theorem PhB.stop {D : DataW Value} {left : Lit → Bool} {rs : List (List Int)} (h : PhB D left rs) (hl : ∀ kl, left kl = false) : ∀ x, R5 x → (x ∈ rs ↔ Maps.has D (klR x) = true) := by
  intro x hx
  have h3 := h.2.2 x hx
  rw [hl] at h3
  constructor
  · intro hm; exact (h.2.1 x hm).2
  · intro hh
    rw [hh] at h3
    simpa using h3.symm
section
variable (w : World) {ops : Array Oper} {rest : List Oper} {o : Oper} {a : Act} {Q : Exit → Act → World → Prop}
theorem mapS_next (hg : o.guard = none) (it : Operand) (hop : o.op = Op.next it false) (b r n : Nat) (D : DataW Value) (left : Lit → Bool) (cnt : Nat) (hit : a.eval it = .pointer (some ⟨r, 0, none⟩)) (h : w.ranges Try.prog 55 tokS b r n D left cnt)
    (hDone : cnt = 0 → (∀ kl, left kl = false) → wpList Try.prog ops Q rest (a.put o.dst (.tuple #[.bool false])) w)
    (hMore : ∀ (a0 a1 a2 a3 a4 : Int) (ad : Option Addr) (m c : Nat) (w' : World) (cnt' : Nat), R5 [a0, a1, a2, a3, a4] → left (klR [a0, a1, a2, a3, a4]) = true → (∀ zd, D.atKey (klR [a0, a1, a2, a3, a4]) zd = .held (.slice ad m c)) →
      w'.ranges Try.prog 55 tokS b r n D (fun z => left z && !z.sameKey (klR [a0, a1, a2, a3, a4])) cnt' → cnt' < cnt → w.grownBy w' (some r) → w'.heap.size = w.heap.size →
      (Instr.entry (.pointer (some ⟨r, 0, none⟩))).run Try.prog w' = .ok (.tuple #[.agg #[.int .i64 a0, .int .i64 a1, .int .i64 a2, .int .i64 a3, .int .i64 a4], .slice ad m c]) w' →
      wpList Try.prog ops Q rest (a.put o.dst (.tuple #[.bool true, .agg #[.int .i64 a0, .int .i64 a1, .int .i64 a2, .int .i64 a3, .int .i64 a4], .slice ad m c])) w') : wpList Try.prog ops Q (o :: rest) a w := by
  refine wpList_next_ranges w hg it hop 55 keyR tokS (fun r : {r : List Int // R5 r} => recV r.1) (fun t : Option Addr × Nat × Nat => .slice t.1 t.2.1 t.2.2) (fun key kl hk => ?_) (fun v y hv => ?_) b r n D left cnt hit h hDone (fun x c kl y w' cnt' hkey hlk hv hat hrg hlt hgr hsz hen => ?_)
  · obtain ⟨r, hr, e, -⟩ := rec_inv hk
    exact ⟨⟨r, hr⟩, e⟩
  · obtain ⟨a, m, c, e, -⟩ := tokS_inv hv
    exact ⟨(a, m, c), e⟩
  · obtain ⟨x, hx⟩ := x
    obtain ⟨ad, m, c⟩ := c
    have hkk := keyOf_klR hx
    rw [hkey] at hkk
    cases hkk
    cases hv
    have hx5 := r5_list hx
    obtain ⟨a0, a1, a2, a3, a4, rfl⟩ : ∃ a0 a1 a2 a3 a4, x = [a0, a1, a2, a3, a4] := ⟨_, _, _, _, _, hx5⟩
    exact hMore a0 a1 a2 a3 a4 ad m c w' cnt' hx hlk hat hrg hlt hgr hsz hen
end
end Go.Proofs.Ytkaalgbcdcbgoaa
