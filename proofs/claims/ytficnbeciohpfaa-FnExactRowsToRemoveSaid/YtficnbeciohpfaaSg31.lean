/- Texts of this claim, merged: PhB, EntT. Conditions: as stated. -/
import Derived.Test.YtficnbeciohpfaaSg13
import Derived.Test.YtficnbeciohpfaaSg14
namespace Go.Proofs.Ytficnbeciohpfaa
open Go.RowKit

theorem strike {left : Lit → Bool} {x x0 : List Int} (hx : R5 x) (h0 : R5 x0) : (left (klR x) && !(klR x).sameKey (klR x0)) = (left (klR x) && !decide (x = x0)) := by
  by_cases h : x = x0
  · subst h
    rw [WideAt.sameKey_self (klR_key hx), decide_eq_true rfl]
  · have : (klR x).sameKey (klR x0) = false := by
      cases hs : (klR x).sameKey (klR x0) with
      | false => rfl
      | true => exact absurd (klR_inj hx h0 (WideAt.sameKey_eq hs)) h
    rw [this, decide_eq_false h]
/-- The records that were collected, and those that are still to come. -/
def PhB {H : Type} (D : DataW H) (left : Lit → Bool) (rs : List (List Int)) : Prop :=
  rs.Nodup ∧ (∀ x ∈ rs, R5 x ∧ Maps.has D (klR x) = true) ∧ ∀ x, R5 x → left (klR x) = (Maps.has D (klR x) && !decide (x ∈ rs))
theorem PhB.start {H : Type} (D : DataW H) : PhB D (Maps.has D) [] := ⟨List.nodup_nil, (fun x hx => by cases hx), fun x _ => by simp⟩
theorem PhB.step {H : Type} {D : DataW H} {left : Lit → Bool} {rs : List (List Int)} (h : PhB D left rs) {x0 : List Int} (h0 : R5 x0) (hl : left (klR x0) = true) : PhB D (fun z => left z && !z.sameKey (klR x0)) (rs ++ [x0]) := by
  obtain ⟨h1, h2, h3⟩ := h
  have h4 := h3 x0 h0
  rw [hl] at h4
  have h4' := h4.symm
  rw [Bool.and_eq_true, Bool.not_eq_true', decide_eq_false_iff_not] at h4'
  refine ⟨?_, fun x hx => ?_, fun x hx => ?_⟩
  · rw [List.nodup_append]
    exact ⟨h1, by simp, fun a ha c hc e => by simp at hc; subst hc; subst e; exact h4'.2 ha⟩
  · rcases List.mem_append.1 hx with h | h
    · exact h2 x h
    · simp at h; subst h; exact ⟨h0, h4'.1⟩
  · show (left (klR x) && !(klR x).sameKey (klR x0)) = _
    rw [strike hx h0, h3 x hx]
    by_cases hxx : x = x0
    · subst hxx; simp
    · simp [hxx]
theorem PhB.stop {H : Type} {D : DataW H} {left : Lit → Bool} {rs : List (List Int)} (h : PhB D left rs) (hl : ∀ kl, left kl = false) : ∀ x, R5 x → (x ∈ rs ↔ Maps.has D (klR x) = true) := by
  intro x hx
  have h3 := h.2.2 x hx
  rw [hl] at h3
  constructor
  · intro hm; exact (h.2.1 x hm).2
  · intro hh
    rw [hh] at h3
    simpa using h3.symm
end Go.Proofs.Ytficnbeciohpfaa
namespace Go.Proofs.Ytficnbeciohpfaa
open Go.RowKit
open Go.ChangeMaps (setBlock)

theorem lawS : Go.WideMaps.KeyLaw Try.prog 72 := deep_law (m := 3) (by omega) (by kernel_rfl) (by kernel_rfl) (by kernel_rfl)
/-- To make an entry is to store into it what it reads as. -/
theorem entry_update {w : World} {b clock : Nat} {es : Array MapEntry} (hb : w.heap[b]? = some (.map es clock)) (F : Go.WideElems.Fit (H := Unit) Try.prog 72 (plainElem Try.prog 3) es clock) {key : Value} {kl : Lit} (hkey : keyOf Try.prog 72 key = some kl) :
    ∃ (v0 : Value) (st : Nat) (w1 : World), (Instr.mapEntry 67 (.map (some b)) key).run Try.prog w = .ok (.tuple #[v0, goInt st]) w1 ∧ (Instr.mapUpdate 67 (.map (some b)) key v0).run Try.prog w = .ok () w1 := by
  rcases lawS.find w hkey es.toList F.keys with ⟨h1, -⟩ | ⟨j, e0, h1, h2, h3⟩
  · refine ⟨.int .i64 0, clock, setBlock w b (.map (es.push ⟨key, .int .i64 0, clock⟩) (clock + 1)), ?_, ?_⟩
    · simp [Instr.mapEntry, run_underlying Try.underlying67, MapKept.run_getObj_map hb, lawS.check w false hkey, h1, MapKept.run_setObj_map _ hb, Result.andThen, setBlock]
    · simp [Instr.mapUpdate, run_underlying Try.underlying67, MapKept.run_getObj_map hb, lawS.check w false hkey, h1, MapKept.run_setObj_map _ hb, Result.andThen, setBlock]
  · have hj : es[j]? = some e0 := by simpa using h2
    have hm : es.modify j (fun e => { e with key := key, val := e0.val }) = es.modify j (fun e => { e with key := key }) := by
      apply Array.ext'
      rw [Array.toList_modify, Array.toList_modify, Go.ChangeMaps.modify_eq_set _ _ _ _ h2, Go.ChangeMaps.modify_eq_set _ _ _ _ h2]
    refine ⟨e0.val, e0.born, setBlock w b (.map (es.modify j (fun e => { e with key := key })) clock), ?_, ?_⟩
    · simp [Instr.mapEntry, run_underlying Try.underlying67, MapKept.run_getObj_map hb, lawS.check w false hkey, h1, hj, h3, lawS.stays w hkey, MapKept.run_setObj_map _ hb, Result.andThen, setBlock]
    · simp [Instr.mapUpdate, run_underlying Try.underlying67, MapKept.run_getObj_map hb, lawS.check w false hkey, h1, hj, h3, lawS.stays w hkey, hm, MapKept.run_setObj_map _ hb, Result.andThen, setBlock]
theorem goInt_inj {a b : Nat} (h : goInt a = goInt b) : a = b := by
  unfold goInt at h
  have h2 : (a : Int) = (b : Int) := by simpa using h
  omega
/-- The entry of r is made, and stored into whatever has turned beside the map. -/
theorem mapT_entry {w : World} {b n : Nat} {f : List Int → Nat} (h : MapT w b n f) (hn : n < maxLen) {r : List Int} (hr : S6 r) (hf : (Lit.int .i64 (f r : Int)).wf = true) :
    ∃ (st : Nat) (w1 : World), (Instr.mapEntry 67 (.map (some b)) (sidV r)).run Try.prog w = .ok (.tuple #[.int .i64 (f r : Int), goInt st]) w1 ∧ MapT w1 b (n + 1) f ∧ w.grownBy w1 (some b) ∧
      ∀ (w2 : World) (c : Nat), w2.heap[b]? = w1.heap[b]? → (Lit.int .i64 (c : Int)).wf = true → ∃ w3, (Instr.entryStore 67 (.map (some b)) (goInt st) (.int .i64 (c : Int))).run Try.prog w2 = .ok () w3 ∧ MapT w3 b (n + 1) (fun x => if x = r then c else f x) ∧ w2.grownBy w3 (some b) := by
  obtain ⟨D, h1, h2⟩ := h
  have h' := h1
  have hkey := keyOf_klS hr
  have hD := h1.isMap
  obtain ⟨es, clock, hb, F, hs, hDD⟩ := h1
  obtain ⟨v0, st, w1, e1, e2⟩ := entry_update hb F hkey
  obtain ⟨v0', st', es1, clock1, hrun, hv, hback⟩ := Go.WideElems.entry_then_store lawS Try.underlying67 (fun u => zeroJ u) hb F hkey
  rw [e1] at hrun
  simp only [Result.ok.injEq, Value.tuple.injEq, Array.mk.injEq, List.cons.injEq, and_true] at hrun
  obtain ⟨⟨rfl, hst⟩, rfl⟩ := hrun
  obtain rfl := goInt_inj hst
  have hval : v0 = .int .i64 (f r : Int) := by
    have h2r := h2 r hr
    rcases Maps.fit_look false keyS Try.underlying67 (zeroJ w) hb F hkey with ⟨-, hne, hat⟩ | ⟨e0, y, hm0, h3, -, hR, hat, -⟩
    · rw [hDD, hat] at h2r
      rcases hv with ⟨e1, he1, hk1, -⟩ | ⟨-, rfl⟩
      · exact absurd hk1 (hne e1 he1)
      · simp only [DataW.lit.injEq, Lit.int.injEq, true_and] at h2r
        rw [← h2r]
    · rw [hDD, hat] at h2r
      obtain ⟨a, ha, rfl, -⟩ := plainElem_int_inv Try.underlying3 hR
      rcases hv with ⟨e1, he1, hk1, rfl⟩ | ⟨hno, -⟩
      · have hp := ((MapKept.stamped_iff es clock).1 F.stamped).2.2
        obtain rfl := entry_eq_of_key hp hm0 he1 (h3.trans hk1.symm)
        simp only [DataW.lit.injEq, Lit.int.injEq, true_and] at h2r
        rw [← h2r]; exact ha
      · exact absurd h3 (hno e0 hm0)
  subst hval
  refine ⟨st, _, e1, ?_, ?_, fun w2 c hw2 hc => ?_⟩
  · obtain ⟨w9, hup, hown, -⟩ := h'.update keyS Try.underlying67 hn hkey (plainElem_int Try.underlying3 hf)
    rw [e2] at hup
    simp only [Result.ok.injEq, true_and] at hup
    rw [hup]
    exact (MapT.store hown hr hD h2).congr (fun x => by split <;> simp [*])
  · exact ⟨rfl, rfl, rfl, by simp [setBlock], fun i _ hi => ChangeMaps.heap_setBlock_other hb _ (fun e => hi (by rw [e]))⟩
  · rw [ChangeMaps.heap_setBlock_same hb] at hw2
    obtain ⟨es', clock', hst, hup2⟩ := hback w2 (.int .i64 (c : Int)) hw2
    obtain ⟨w9, hup, hown, -⟩ := h'.update keyS Try.underlying67 hn hkey (plainElem_int Try.underlying3 hc)
    rw [hup2] at hup
    simp only [Result.ok.injEq, true_and] at hup
    obtain ⟨es2, clock2, h9, q⟩ := hown
    rw [← hup, ChangeMaps.heap_setBlock_same hb] at h9
    simp only [Option.some.injEq, Obj.map.injEq] at h9
    obtain ⟨rfl, rfl⟩ := h9
    exact ⟨_, hst, MapT.store ⟨_, _, ChangeMaps.heap_setBlock_same hw2 _, q⟩ hr hD h2, ⟨rfl, rfl, rfl, by simp [setBlock], fun i _ hi => ChangeMaps.heap_setBlock_other hw2 _ (fun e => hi (by rw [e]))⟩⟩
theorem mapT_run {w : World} {b n : Nat} {f : List Int → Nat} (h : MapT w b n f) {r : List Int} (hr : S6 r) : (Instr.lookup 67 (.map (some b)) (sidV r) false).run Try.prog w = .ok (.int .i64 (f r : Int)) w := by
  obtain ⟨D, h1, h2⟩ := h
  obtain ⟨c, hrun, hat, -⟩ := h1.lookup_int keyS Try.underlying67 Try.underlying3 (zeroJ w) (keyOf_klS hr)
  rw [h2 r hr] at hat
  cases hat
  exact hrun
theorem mapQ_run {w : World} {b n : Nat} {f : List Int → Nat} (h : MapQ w b n f) {r : List Int} (hr : R5 r) : (Instr.lookup 68 (.map (some b)) (recV r) false).run Try.prog w = .ok (.int .i64 (f r : Int)) w := by
  obtain ⟨D, h1, h2⟩ := h
  obtain ⟨c, hrun, hat, -⟩ := h1.lookup_int keyR Try.underlying68 Try.underlying3 (zeroJ w) (keyOf_klR hr)
  rw [(h2 r hr).2] at hat
  cases hat
  exact hrun
theorem mapQ_update {w : World} {b n : Nat} {f : List Int → Nat} (h : MapQ w b n f) (hn : n < maxLen) {r : List Int} (hr : R5 r) {c : Nat} (hc : c ≠ 0) (hwc : (Lit.int .i64 (c : Int)).wf = true) :
    ∃ w', (Instr.mapUpdate 68 (.map (some b)) (recV r) (.int .i64 (c : Int))).run Try.prog w = .ok () w' ∧ MapQ w' b (n + 1) (fun x => if x = r then c else f x) ∧ w.grownBy w' (some b) := by
  obtain ⟨D, h1, h2⟩ := h
  obtain ⟨w', hrun, hown, hgr⟩ := h1.update keyR Try.underlying68 hn (keyOf_klR hr) (plainElem_int Try.underlying3 hwc)
  exact ⟨w', hrun, MapQ.store hown hr h1.isMap hc h2, hgr⟩
section
variable (w : World) {ops : Array Oper} {rest : List Oper} {o : Oper} {a : Act} {Q : Exit → Act → World → Prop}
theorem mapQ_next (hg : o.guard = none) (it : Operand) (hop : o.op = Op.next it false) (b r n : Nat) (D : DataW Unit) (left : Lit → Bool) (cnt : Nat) (hit : a.eval it = .pointer (some ⟨r, 0, none⟩)) (h : w.ranges Try.prog 70 (plainElem Try.prog 3) b r n D left cnt)
    (hDone : cnt = 0 → (∀ kl, left kl = false) → wpList Try.prog ops Q rest (a.put o.dst (.tuple #[.bool false])) w)
    (hMore : ∀ (a0 a1 a2 a3 a4 y : Int) (w' : World) (cnt' : Nat), R5 [a0, a1, a2, a3, a4] → left (klR [a0, a1, a2, a3, a4]) = true → (∀ zd, D.atKey (klR [a0, a1, a2, a3, a4]) zd = .lit (.int .i64 y)) →
      w'.ranges Try.prog 70 (plainElem Try.prog 3) b r n D (fun z => left z && !z.sameKey (klR [a0, a1, a2, a3, a4])) cnt' → cnt' < cnt → w.grownBy w' (some r) → w'.heap.size = w.heap.size →
      (Instr.entry (.pointer (some ⟨r, 0, none⟩))).run Try.prog w' = .ok (.tuple #[.agg #[.int .i64 a0, .int .i64 a1, .int .i64 a2, .int .i64 a3, .int .i64 a4], .int .i64 y]) w' →
      wpList Try.prog ops Q rest (a.put o.dst (.tuple #[.bool true, .agg #[.int .i64 a0, .int .i64 a1, .int .i64 a2, .int .i64 a3, .int .i64 a4], .int .i64 y])) w') : wpList Try.prog ops Q (o :: rest) a w := by
  refine wpList_next_ranges w hg it hop 70 keyR (plainElem Try.prog 3) (fun r : {r : List Int // R5 r} => recV r.1) (fun t : Int => .int .i64 t) (fun key kl hk => ?_) (fun v y hv => ?_) b r n D left cnt hit h hDone (fun x c kl y w' cnt' hkey hlk hv hat hrg hlt hgr hsz hen => ?_)
  · obtain ⟨r, hr, e, -⟩ := rec_inv hk
    exact ⟨⟨r, hr⟩, e⟩
  · obtain ⟨c, e, -⟩ := plainElem_int_inv Try.underlying3 hv
    exact ⟨c, e⟩
  · obtain ⟨x, hx⟩ := x
    have hkk := keyOf_klR hx
    rw [hkey] at hkk
    cases hkk
    obtain ⟨c', ec, rfl, -⟩ := plainElem_int_inv Try.underlying3 hv
    cases ec
    have hx5 := r5_list hx
    obtain ⟨a0, a1, a2, a3, a4, rfl⟩ : ∃ a0 a1 a2 a3 a4, x = [a0, a1, a2, a3, a4] := ⟨_, _, _, _, _, hx5⟩
    exact hMore a0 a1 a2 a3 a4 c w' cnt' hx hlk hat hrg hlt hgr hsz hen
end
theorem MapT.drew {w : World} {b n : Nat} {f : List Int → Nat} (h : MapT w b n f) : MapT w.drew b n f := h
theorem MapQ.drew {w : World} {b n : Nat} {f : List Int → Nat} (h : MapQ w b n f) : MapQ w.drew b n f := h
end Go.Proofs.Ytficnbeciohpfaa
