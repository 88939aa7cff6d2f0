/- Texts of this claim, merged: RecK, SidK, RowOrd, CmpI, RecO, SidL, SidV. Conditions: as stated. -/
import Derived.Test.YtpnapdhcdhcacaaXa7
import Derived.Maps.RangeWalk
import Derived.Maps.AppendAt
import Derived.WideKeyEntry
import Derived.WideKeyPair
import Derived.Test.YtpnapdhcdhcacaaXa1
import Derived.Test.YtpnapdhcdhcacaaXa23
import Derived.Test.YtpnapdhcdhcacaaXa2
import Derived.Deep.RegionHeld3
import Derived.RegionTactic
namespace Go.Proofs.Ytpnapdhcdhcacaa
open Go.RowKit
open Go.Maps (Keyed)
open Go.WideMaps (ArrKey)
open Go.ChangeMaps (setBlock)

theorem arrR : ArrKey Try.prog 112 3 5 := ⟨Try.underlying112, by kernel_rfl, by kernel_rfl, by kernel_rfl⟩
theorem keyR : Keyed Try.prog 112 := Keyed.of_law arrR.law
theorem sizeT : ∃ m, Try.prog.types.size = m + 1 := ⟨Try.prog.types.size - 1, by kernel_rfl⟩
/-- The value of a record. -/
def recV (r : List Int) : Value := .agg #[.int .i64 (r.getD 0 0), .int .i64 (r.getD 1 0), .int .i64 (r.getD 2 0), .int .i64 (r.getD 3 0), .int .i64 (r.getD 4 0)]
/-- Five ints. -/
def R5 (r : List Int) : Prop := r.length = 5 ∧ ∀ j, j < 5 → (Lit.int .i64 (r.getD j 0)).wf = true
theorem r5_list {r : List Int} (h : R5 r) : r = [r.getD 0 0, r.getD 1 0, r.getD 2 0, r.getD 3 0, r.getD 4 0] := by
  obtain ⟨h, -⟩ := h
  match r, h with
  | [a, b, c, d, e], _ => rfl
theorem recV_inj {r s : List Int} (hr : R5 r) (hs : R5 s) (h : recV r = recV s) : r = s := by
  rw [r5_list hr, r5_list hs]
  unfold recV at h
  simp only [Value.agg.injEq, Array.mk.injEq, List.cons.injEq, Value.int.injEq, true_and, and_true] at h
  obtain ⟨h0, h1, h2, h3, h4⟩ := h
  rw [h0, h1, h2, h3, h4]
instance : Nonempty Lit := ⟨.bool false⟩
theorem keyOf_rec {r : List Int} (h : R5 r) : ∃ kl, keyOf Try.prog 112 (recV r) = some kl := by
  have hkt := arrR.keyType sizeT
  obtain ⟨m, hm⟩ := sizeT
  obtain ⟨-, hw⟩ := h
  have w0 := hw 0 (by omega)
  have w1 := hw 1 (by omega)
  have w2 := hw 2 (by omega)
  have w3 := hw 3 (by omega)
  have w4 := hw 4 (by omega)
  refine ⟨.string (keyBytes [.int .i64 (r.getD 0 0), .int .i64 (r.getD 1 0), .int .i64 (r.getD 2 0), .int .i64 (r.getD 3 0), .int .i64 (r.getD 4 0)]), ?_⟩
  · unfold keyOf recV
    generalize r.getD 0 0 = a0, r.getD 1 0 = a1, r.getD 2 0 = a2, r.getD 3 0 = a3, r.getD 4 0 = a4 at *
    simp only [arrR.hu]
    rw [if_pos (by simp [hkt, Value.formed, arrR.hu, arrR.size]), hm]
    unfold Program.keyLits
    simp only [arrR.hu, Value.cells]
    rw [if_pos (by rw [arrR.size]; rfl), show List.range 5 = [0, 1, 2, 3, 4] from rfl, List.mapM_cons, List.mapM_cons, List.mapM_cons, List.mapM_cons, List.mapM_cons, List.mapM_nil]
    simp [arrR.one, Program.keyLits, Try.underlying3, w0, w1, w2, w3, w4]
/-- What a record reads as. -/
noncomputable def klR (r : List Int) : Lit := Classical.epsilon fun kl => keyOf Try.prog 112 (recV r) = some kl
theorem keyOf_klR {r : List Int} (h : R5 r) : keyOf Try.prog 112 (recV r) = some (klR r) := by
  exact Classical.epsilon_spec (keyOf_rec h)
theorem klR_inj {r s : List Int} (hr : R5 r) (hs : R5 s) (h : klR r = klR s) : r = s := by
  have h1 := keyOf_klR hr
  rw [h] at h1
  exact recV_inj hr hs (keyR.inj h1 (keyOf_klR hs))
theorem klR_key {r : List Int} (h : R5 r) : WideAt.IsKeyLit (klR r) := keyR.key (keyOf_klR h)
theorem lit_one {m : Nat} {c : Value} {ls : List Lit} (h : Try.prog.keyLits (m + 1) 3 [c] = some ls) : ∃ a, c = .int .i64 a ∧ (Lit.int .i64 a).wf = true := by
  unfold Program.keyLits at h
  simp only [Try.underlying3] at h
  cases c <;> simp at h
  obtain ⟨⟨rfl, hw⟩, -⟩ := h
  exact ⟨_, rfl, hw⟩
set_option maxRecDepth 100000 in
theorem rec_inv {v : Value} {kl : Lit} (h : keyOf Try.prog 112 v = some kl) : ∃ r, R5 r ∧ v = recV r ∧ kl = klR r := by
  have h' := h
  obtain ⟨m, hm⟩ := sizeT
  unfold keyOf at h
  simp only [arrR.hu] at h
  split at h
  · next hf =>
    rw [Bool.and_eq_true] at hf
    have hfm := hf.2
    cases v with
    | agg cs =>
      simp only [Value.formed, arrR.hu, arrR.size, beq_iff_eq] at hfm
      obtain ⟨c0, c1, c2, c3, c4, rfl⟩ : ∃ c0 c1 c2 c3 c4, cs = #[c0, c1, c2, c3, c4] := by
        obtain ⟨l⟩ := cs
        match l, hfm with
        | [a, b, c, d, e], _ => exact ⟨a, b, c, d, e, rfl⟩
      rw [hm] at h
      unfold Program.keyLits at h
      simp only [arrR.hu, Value.cells] at h
      rw [if_pos (by rw [arrR.size]; rfl), show List.range 5 = [0, 1, 2, 3, 4] from rfl, List.mapM_cons, List.mapM_cons, List.mapM_cons, List.mapM_cons, List.mapM_cons, List.mapM_nil] at h
      simp only [arrR.one, Nat.mul_one, List.drop_zero, List.drop_succ_cons, List.take_succ_cons, List.take_zero, Option.map_eq_some_iff, bind, Option.bind_eq_some_iff, pure] at h
      obtain ⟨-, ⟨-, ⟨y0, h0, -, ⟨y1, h1, -, ⟨y2, h2, -, ⟨y3, h3, -, ⟨y4, h4, -⟩, -⟩, -⟩, -⟩, -⟩, -⟩, -⟩ := h
      obtain ⟨a0, rfl, v0⟩ := lit_one h0
      obtain ⟨a1, rfl, v1⟩ := lit_one h1
      obtain ⟨a2, rfl, v2⟩ := lit_one h2
      obtain ⟨a3, rfl, v3⟩ := lit_one h3
      obtain ⟨a4, rfl, v4⟩ := lit_one h4
      have hR : R5 [a0, a1, a2, a3, a4] := ⟨rfl, fun j hj => by
        rcases (show j = 0 ∨ j = 1 ∨ j = 2 ∨ j = 3 ∨ j = 4 by omega) with rfl | rfl | rfl | rfl | rfl
        · exact v0
        · exact v1
        · exact v2
        · exact v3
        · exact v4⟩
      have hk := keyOf_klR hR
      refine ⟨_, hR, rfl, ?_⟩
      rw [show recV [a0, a1, a2, a3, a4] = .agg #[.int .i64 a0, .int .i64 a1, .int .i64 a2, .int .i64 a3, .int .i64 a4] from rfl, h'] at hk
      exact Option.some.inj hk
    | _ => simp [Value.formed, arrR.hu] at hfm
  · cases h

/-- A value reads as itself. -/
def tokR (v : Value) : Option (DataW Value × List MemPlace) := some (.held v, [])
abbrev nilS : Value := .slice none 0 0
theorem zeroS (w : World) : (zeroValue 47).run Try.prog w = .ok nilS w := by kernel_rfl
/-- Block b is a map of at most n entries from records to slices that reads as D. -/
def MapR (w : World) (b n : Nat) (D : DataW Value) : Prop := w.ownsMap Try.prog 112 tokR b n D
section
variable (w : World) {ops : Array Oper} {rest : List Oper} {o : Oper} {a : Act} {Q : Exit → Act → World → Prop}
end
end Go.Proofs.Ytpnapdhcdhcacaa
namespace Go.Proofs.Ytpnapdhcdhcacaa
open Go.RowKit
open Go.Maps (Keyed)

theorem keyS : Keyed Try.prog 116 := Keyed.of_law (deep_law (m := 3) (by omega) (by kernel_rfl) (by kernel_rfl) (by kernel_rfl))
theorem typS : Try.prog.keyType 116 = true := by kernel_rfl
theorem sizS : Try.prog.cellsOf 116 = 6 := by kernel_rfl
/-- The value of the sides of a row: five ints and one. -/
def sidV (r : List Int) : Value := .agg #[.int .i64 (r.getD 0 0), .int .i64 (r.getD 1 0), .int .i64 (r.getD 2 0), .int .i64 (r.getD 3 0), .int .i64 (r.getD 4 0), .int .i64 (r.getD 5 0)]
/-- Six ints. -/
def S6 (r : List Int) : Prop := r.length = 6 ∧ ∀ j, j < 6 → (Lit.int .i64 (r.getD j 0)).wf = true
theorem s6_list {r : List Int} (h : S6 r) : r = [r.getD 0 0, r.getD 1 0, r.getD 2 0, r.getD 3 0, r.getD 4 0, r.getD 5 0] := by
  obtain ⟨h, -⟩ := h
  match r, h with
  | [a, b, c, d, e, f], _ => rfl
theorem sidV_inj {r s : List Int} (hr : S6 r) (hs : S6 s) (h : sidV r = sidV s) : r = s := by
  rw [s6_list hr, s6_list hs]
  unfold sidV at h
  simp only [Value.agg.injEq, Array.mk.injEq, List.cons.injEq, Value.int.injEq, true_and, and_true] at h
  obtain ⟨h0, h1, h2, h3, h4, h5⟩ := h
  rw [h0, h1, h2, h3, h4, h5]
theorem lits_int {m : Nat} {a : Int} (h : (Lit.int .i64 a).wf = true) : Try.prog.keyLits (m + 1) 3 [.int .i64 a] = some [.int .i64 a] := by
  unfold Program.keyLits
  simp [Try.underlying3, h]
theorem lits_rec {m : Nat} {a0 a1 a2 a3 a4 : Int} (w0 : (Lit.int .i64 a0).wf = true) (w1 : (Lit.int .i64 a1).wf = true) (w2 : (Lit.int .i64 a2).wf = true) (w3 : (Lit.int .i64 a3).wf = true) (w4 : (Lit.int .i64 a4).wf = true) :
    Try.prog.keyLits (m + 2) 112 [.int .i64 a0, .int .i64 a1, .int .i64 a2, .int .i64 a3, .int .i64 a4] = some [.int .i64 a0, .int .i64 a1, .int .i64 a2, .int .i64 a3, .int .i64 a4] := by
  unfold Program.keyLits
  simp only [arrR.hu]
  rw [if_pos (by rw [arrR.size]; rfl), show List.range 5 = [0, 1, 2, 3, 4] from rfl, List.mapM_cons, List.mapM_cons, List.mapM_cons, List.mapM_cons, List.mapM_cons, List.mapM_nil]
  simp [arrR.one, lits_int w0, lits_int w1, lits_int w2, lits_int w3, lits_int w4]
theorem sizeT2 : ∃ m, Try.prog.types.size = m + 2 := ⟨Try.prog.types.size - 2, by kernel_rfl⟩
theorem keyOf_sid {r : List Int} (h : S6 r) : ∃ kl, keyOf Try.prog 116 (sidV r) = some kl := by
  obtain ⟨m, hm⟩ := sizeT2
  obtain ⟨-, hw⟩ := h
  have w0 := hw 0 (by omega)
  have w1 := hw 1 (by omega)
  have w2 := hw 2 (by omega)
  have w3 := hw 3 (by omega)
  have w4 := hw 4 (by omega)
  have w5 := hw 5 (by omega)
  refine ⟨.string (keyBytes [.int .i64 (r.getD 0 0), .int .i64 (r.getD 1 0), .int .i64 (r.getD 2 0), .int .i64 (r.getD 3 0), .int .i64 (r.getD 4 0), .int .i64 (r.getD 5 0)]), ?_⟩
  unfold keyOf sidV
  generalize r.getD 0 0 = a0, r.getD 1 0 = a1, r.getD 2 0 = a2, r.getD 3 0 = a3, r.getD 4 0 = a4, r.getD 5 0 = a5 at *
  simp only [Try.underlying116]
  rw [if_pos (by simp [typS, Value.formed, Try.underlying116, sizS]), hm]
  unfold Program.keyLits
  simp only [Try.underlying116, Value.cells]
  rw [if_pos (by rw [sizS]; exact ⟨rfl, by simp⟩)]
  have e5 := @lits_rec (m) a0 a1 a2 a3 a4 w0 w1 w2 w3 w4
  have e1 := @lits_int (m + 1) a5 w5
  simp [arrR.size, arrR.one, e5, e1]
noncomputable def klS (r : List Int) : Lit := Classical.epsilon fun kl => keyOf Try.prog 116 (sidV r) = some kl
theorem keyOf_klS {r : List Int} (h : S6 r) : keyOf Try.prog 116 (sidV r) = some (klS r) := by
  exact Classical.epsilon_spec (keyOf_sid h)
theorem klS_inj {r s : List Int} (hr : S6 r) (hs : S6 s) (h : klS r = klS s) : r = s := by
  have h1 := keyOf_klS hr
  rw [h] at h1
  exact sidV_inj hr hs (keyS.inj h1 (keyOf_klS hs))
theorem klS_key {r : List Int} (h : S6 r) : WideAt.IsKeyLit (klS r) := keyS.key (keyOf_klS h)
/-- Block b is a map of at most n entries from sides to numbers: f's, 0 where it has none. -/
def MapT (w : World) (b n : Nat) (f : List Int → Nat) : Prop :=
  ∃ D : DataW Unit, w.ownsMap Try.prog 116 (plainElem Try.prog 3) b n D ∧ ∀ x, S6 x → D.atKey (klS x) (.lit (.int .i64 0)) = .lit (.int .i64 (f x : Int))
/-- The same from records; only those with a number above 0 are there. -/
def MapQ (w : World) (b n : Nat) (f : List Int → Nat) : Prop :=
  ∃ D : DataW Unit, w.ownsMap Try.prog 112 (plainElem Try.prog 3) b n D ∧ ∀ x, R5 x → Maps.has D (klR x) = decide (f x ≠ 0) ∧ D.atKey (klR x) (.lit (.int .i64 0)) = .lit (.int .i64 (f x : Int))
theorem zeroJ (w : World) : (zeroValue 3).run Try.prog w = .ok (.int .i64 0) w := by kernel_rfl
theorem MapT.made (w : World) : MapT (w.alloc (.map #[] 0)) w.heap.size 0 (fun _ => 0) := ⟨.map [], World.ownsMap_made _ _ _ _, fun _ _ => rfl⟩
theorem MapQ.made (w : World) : MapQ (w.alloc (.map #[] 0)) w.heap.size 0 (fun _ => 0) := ⟨.map [], World.ownsMap_made _ _ _ _, fun _ _ => ⟨rfl, rfl⟩⟩
theorem MapT.congr {w : World} {b n : Nat} {f g : List Int → Nat} (h : MapT w b n f) (e : ∀ x, f x = g x) : MapT w b n g := by
  have : f = g := funext e
  exact this ▸ h
theorem MapQ.congr {w : World} {b n : Nat} {f g : List Int → Nat} (h : MapQ w b n f) (e : ∀ x, f x = g x) : MapQ w b n g := by
  have : f = g := funext e
  exact this ▸ h
theorem MapT.lt {w : World} {b n : Nat} {f : List Int → Nat} (h : MapT w b n f) : b < w.heap.size := by
  obtain ⟨D, h1, -⟩ := h; exact h1.lt
theorem MapQ.lt {w : World} {b n : Nat} {f : List Int → Nat} (h : MapQ w b n f) : b < w.heap.size := by
  obtain ⟨D, h1, -⟩ := h; exact h1.lt
theorem MapT.kept {w w' : World} {b n : Nat} {f : List Int → Nat} {row : Option Nat} (h : MapT w b n f) (hg : w.grownBy w' row) (hne : some b ≠ row) : MapT w' b n f := by
  obtain ⟨D, h1, h2⟩ := h; exact ⟨D, h1.kept hg hne, h2⟩
theorem MapQ.kept {w w' : World} {b n : Nat} {f : List Int → Nat} {row : Option Nat} (h : MapQ w b n f) (hg : w.grownBy w' row) (hne : some b ≠ row) : MapQ w' b n f := by
  obtain ⟨D, h1, h2⟩ := h; exact ⟨D, h1.kept hg hne, h2⟩
theorem MapT.below {w w' : World} {b n C : Nat} {f : List Int → Nat} (h : MapT w b n f) (hb : Below C w w') (hC : b < C) : MapT w' b n f := by
  obtain ⟨D, h1, h2⟩ := h
  obtain ⟨es, clock, h3, r⟩ := h1
  exact ⟨D, ⟨es, clock, (hb.block b hC).trans h3, r⟩, h2⟩
theorem MapQ.below {w w' : World} {b n C : Nat} {f : List Int → Nat} (h : MapQ w b n f) (hb : Below C w w') (hC : b < C) : MapQ w' b n f := by
  obtain ⟨D, h1, h2⟩ := h
  obtain ⟨es, clock, h3, r⟩ := h1
  exact ⟨D, ⟨es, clock, (hb.block b hC).trans h3, r⟩, h2⟩
/-- The two maps are two blocks. -/
theorem MapT.store {w' : World} {b n : Nat} {f : List Int → Nat} {D : DataW Unit} {r : List Int} {c : Nat} (h : w'.ownsMap Try.prog 116 (plainElem Try.prog 3) b (n + 1) (D.put (klS r) (.lit (.int .i64 (c : Int))))) (hr : S6 r) (hD : Maps.IsMap D)
    (h2 : ∀ x, S6 x → D.atKey (klS x) (.lit (.int .i64 0)) = .lit (.int .i64 (f x : Int))) : MapT w' b (n + 1) (fun x => if x = r then c else f x) := by
  refine ⟨_, h, fun x hx => ?_⟩
  by_cases hxr : x = r
  · subst hxr
    have hkk := @klS_key x hr
    rw [Go.Maps.atKey_put_same (k := klS x) hD hkk]; simp
  · rw [Go.Maps.atKey_put_other (fun e => hxr (klS_inj hx hr e))]
    simpa only [if_neg hxr] using h2 x hx
theorem MapQ.store {w' : World} {b n : Nat} {f : List Int → Nat} {D : DataW Unit} {r : List Int} {c : Nat} (h : w'.ownsMap Try.prog 112 (plainElem Try.prog 3) b (n + 1) (D.put (klR r) (.lit (.int .i64 (c : Int))))) (hr : R5 r) (hD : Maps.IsMap D) (hc : c ≠ 0)
    (h2 : ∀ x, R5 x → Maps.has D (klR x) = decide (f x ≠ 0) ∧ D.atKey (klR x) (.lit (.int .i64 0)) = .lit (.int .i64 (f x : Int))) : MapQ w' b (n + 1) (fun x => if x = r then c else f x) := by
  refine ⟨_, h, fun x hx => ?_⟩
  by_cases hxr : x = r
  · subst hxr
    have hkk := @klR_key x hr
    rw [Go.Maps.has_put_same (k := klR x) hD hkk, Go.Maps.atKey_put_same (k := klR x) hD hkk]
    simp [hc]
  · rw [Go.Maps.has_put_other (fun e => hxr (klR_inj hx hr e)), Go.Maps.atKey_put_other (fun e => hxr (klR_inj hx hr e))]
    simpa only [if_neg hxr] using h2 x hx
section
variable (w : World) {ops : Array Oper} {rest : List Oper} {o : Oper} {a : Act} {Q : Exit → Act → World → Prop}
end
end Go.Proofs.Ytpnapdhcdhcacaa
namespace Go.Proofs.Ytpnapdhcdhcacaa

/-- By the first value that differs; the shorter one first. -/
def lessR : List Int → List Int → Bool
  | [], [] => false
  | [], _ :: _ => true
  | _ :: _, [] => false
  | a :: s1, b :: bs => if a = b then lessR s1 bs else decide (a < b)
theorem lessR_irrefl (a : List Int) : lessR a a = false := by
  induction a with
  | nil => rfl
  | cons x t ih => simp [lessR, ih]
theorem lessR_trans : ∀ (a b c : List Int), lessR a b = true → lessR b c = true → lessR a c = true
  | [], b, c, h1, h2 => by
    cases c with
    | nil => cases b <;> simp [lessR] at h1 h2
    | cons => rfl
  | x :: s1, [], c, h1, _ => by simp [lessR] at h1
  | x :: s1, y :: bs, [], _, h2 => by simp [lessR] at h2
  | x :: s1, y :: bs, z :: cs, h1, h2 => by
    unfold lessR at *
    by_cases hxy : x = y
    · subst hxy
      rw [if_pos rfl] at h1
      by_cases hxz : x = z
      · subst hxz; rw [if_pos rfl] at *; exact lessR_trans s1 bs cs h1 h2
      · rw [if_neg hxz] at *; exact h2
    · rw [if_neg hxy] at h1
      by_cases hyz : y = z
      · subst hyz; rw [if_neg hxy]; exact h1
      · rw [if_neg hyz] at h2
        simp only [decide_eq_true_eq] at h1 h2
        rw [if_neg (by omega)]
        simp only [decide_eq_true_eq]; omega
theorem lessR_total : ∀ (a b : List Int), lessR a b = false → lessR b a = false → a = b
  | [], [], _, _ => rfl
  | [], _ :: _, h, _ => by simp [lessR] at h
  | _ :: _, [], _, h => by simp [lessR] at h
  | x :: s1, y :: bs, h1, h2 => by
    unfold lessR at h1 h2
    by_cases hxy : x = y
    · subst hxy
      rw [if_pos rfl] at h1 h2
      rw [lessR_total s1 bs h1 h2]
    · rw [if_neg hxy] at h1
      rw [if_neg (fun e => hxy e.symm)] at h2
      simp only [decide_eq_false_iff_not] at h1 h2
      omega
theorem lessR_asymm {a b : List Int} (h : lessR a b = true) : lessR b a = false := by
  cases hb : lessR b a with
  | false => rfl
  | true => have := lessR_trans a b a h hb; rw [lessR_irrefl] at this; cases this
/-- In order, no two equal. -/
def Asc (l : List (List Int)) : Prop := l.Pairwise fun a b => lessR a b = true
theorem asc_unique : ∀ (a b : List (List Int)), Asc a → Asc b → (∀ x, x ∈ a ↔ x ∈ b) → a = b
  | [], [], _, _, _ => rfl
  | [], y :: bs, _, _, h => by have := (h y).2 (by simp); cases this
  | x :: s1, [], _, _, h => by have := (h x).1 (by simp); cases this
  | x :: s1, y :: bs, ha, hb, h => by
    unfold Asc at ha hb
    rw [List.pairwise_cons] at ha hb
    have hxy : x = y := by
      have h1 := (h x).1 (by simp)
      have h2 := (h y).2 (by simp)
      rw [List.mem_cons] at h1 h2
      rcases h1 with h1 | h1
      · exact h1
      · rcases h2 with h2 | h2
        · exact h2.symm
        · have e1 := ha.1 y h2
          have e2 := hb.1 x h1
          rw [lessR_asymm e1] at e2; cases e2
    subst hxy
    have hx1 : ∀ z ∈ s1, z ≠ x := fun z hz e => by have := ha.1 z hz; rw [e, lessR_irrefl] at this; cases this
    have hx2 : ∀ z ∈ bs, z ≠ x := fun z hz e => by have := hb.1 z hz; rw [e, lessR_irrefl] at this; cases this
    rw [asc_unique s1 bs ha.2 hb.2 fun z => ⟨fun hz => by
      have := (h z).1 (by simp [hz])
      rw [List.mem_cons] at this
      exact this.resolve_left (hx1 z hz), fun hz => by
      have := (h z).2 (by simp [hz])
      rw [List.mem_cons] at this
      exact this.resolve_left (hx2 z hz)⟩]
/-- The place of a row in a list in order. -/
def insR (x : List Int) : List (List Int) → List (List Int)
  | [] => [x]
  | y :: t => if lessR x y = true then x :: y :: t else if lessR y x = true then y :: insR x t else y :: t
theorem insR_mem (x z : List Int) (l : List (List Int)) : z ∈ insR x l ↔ z = x ∨ z ∈ l := by
  induction l with
  | nil => simp [insR]
  | cons y t ih =>
    unfold insR
    by_cases h1 : lessR x y = true
    · rw [if_pos h1]; simp
    · rw [if_neg h1]
      by_cases h2 : lessR y x = true
      · rw [if_pos h2, List.mem_cons, ih, List.mem_cons]
        constructor
        · rintro (h | h | h)
          · exact .inr (.inl h)
          · exact .inl h
          · exact .inr (.inr h)
        · rintro (h | h | h)
          · exact .inr (.inl h)
          · exact .inl h
          · exact .inr (.inr h)
      · rw [if_neg h2]
        have e : x = y := lessR_total x y (by simpa using h1) (by simpa using h2)
        subst e; simp
theorem insR_asc (x : List Int) (l : List (List Int)) (h : Asc l) : Asc (insR x l) := by
  induction l with
  | nil => exact List.pairwise_singleton _ _
  | cons y t ih =>
    unfold Asc at h
    rw [List.pairwise_cons] at h
    unfold insR
    by_cases h1 : lessR x y = true
    · rw [if_pos h1]
      unfold Asc
      rw [List.pairwise_cons, List.pairwise_cons]
      refine ⟨fun z hz => ?_, h⟩
      rw [List.mem_cons] at hz
      rcases hz with rfl | hz
      · exact h1
      · exact lessR_trans _ _ _ h1 (h.1 z hz)
    · rw [if_neg h1]
      by_cases h2 : lessR y x = true
      · rw [if_pos h2]
        unfold Asc
        rw [List.pairwise_cons]
        refine ⟨fun z hz => ?_, ih h.2⟩
        rw [insR_mem] at hz
        rcases hz with rfl | hz
        · exact h2
        · exact h.1 z hz
      · rw [if_neg h2]
        unfold Asc
        rw [List.pairwise_cons]; exact h
/-- The different rows, in order. -/
def onceL (l : List (List Int)) : List (List Int) := l.foldr insR []
theorem onceL_mem (l : List (List Int)) (z : List Int) : z ∈ onceL l ↔ z ∈ l := by
  induction l with
  | nil => simp [onceL]
  | cons x t ih => unfold onceL at *; rw [List.foldr_cons, insR_mem, ih, List.mem_cons]
theorem onceL_asc (l : List (List Int)) : Asc (onceL l) := by
  induction l with
  | nil => exact List.Pairwise.nil
  | cons x t ih => unfold onceL at *; rw [List.foldr_cons]; exact insR_asc _ _ ih
theorem onceL_eq {l m : List (List Int)} (h1 : Asc m) (h2 : ∀ z, z ∈ m ↔ z ∈ l) : m = onceL l :=
  asc_unique m (onceL l) h1 (onceL_asc l) fun z => by rw [h2, onceL_mem]
theorem insR_len (x : List Int) (l : List (List Int)) : (insR x l).length ≤ l.length + 1 := by
  induction l with
  | nil => simp [insR]
  | cons y t ih =>
    unfold insR
    split
    · simp
    · split
      · simp; exact ih
      · simp
theorem onceL_len (l : List (List Int)) : (onceL l).length ≤ l.length := by
  induction l with
  | nil => simp [onceL]
  | cons x t ih => unfold onceL at *; rw [List.foldr_cons, List.length_cons]; have := insR_len x (t.foldr insR []); omega
theorem onceL_rows {l : List (List Int)} {n : Nat} (h : ∀ r ∈ l, r.length = n) : ∀ r ∈ onceL l, r.length = n := fun r hr => h r ((onceL_mem l r).1 hr)

/-! ### Two lists in order, s1 one: rows beside their values -/
def mergeP : List (Value × List Int) → List (Value × List Int) → List (Value × List Int)
  | [], bs => bs
  | a :: s1, [] => a :: s1
  | a :: s1, b :: bs => if lessR a.2 b.2 = true then a :: mergeP s1 (b :: bs) else if lessR b.2 a.2 = true then b :: mergeP (a :: s1) bs else mergeP (a :: s1) bs
termination_by la lb => la.length + lb.length
theorem mergeP_nil_left (bs : List (Value × List Int)) : mergeP [] bs = bs := by unfold mergeP; rfl
theorem mergeP_nil_right (s1 : List (Value × List Int)) : mergeP s1 [] = s1 := by cases s1 <;> (unfold mergeP; rfl)
theorem mergeP_cons (a b : Value × List Int) (s1 bs : List (Value × List Int)) : mergeP (a :: s1) (b :: bs) = if lessR a.2 b.2 = true then a :: mergeP s1 (b :: bs) else if lessR b.2 a.2 = true then b :: mergeP (a :: s1) bs else mergeP (a :: s1) bs := by
  rw [mergeP]
theorem mergeP_mem : ∀ (s1 bs : List (Value × List Int)) (z : Value × List Int), z ∈ mergeP s1 bs → z ∈ s1 ∨ z ∈ bs
  | [], bs, z, h => by rw [mergeP_nil_left] at h; exact .inr h
  | a :: s1, [], z, h => by rw [mergeP_nil_right] at h; exact .inl h
  | a :: s1, b :: bs, z, h => by
    rw [mergeP_cons] at h
    split at h
    · rw [List.mem_cons] at h
      rcases h with rfl | h
      · exact .inl (by simp)
      · exact (mergeP_mem s1 (b :: bs) z h).imp (fun h => by simp [h]) id
    · split at h
      · rw [List.mem_cons] at h
        rcases h with rfl | h
        · exact .inr (by simp)
        · exact (mergeP_mem (a :: s1) bs z h).imp id (fun h => by simp [h])
      · exact (mergeP_mem (a :: s1) bs z h).imp id (fun h => by simp [h])
termination_by s1 bs => s1.length + bs.length
def AscP (l : List (Value × List Int)) : Prop := l.Pairwise fun a b => lessR a.2 b.2 = true
theorem mergeP_asc : ∀ (s1 bs : List (Value × List Int)), AscP s1 → AscP bs → AscP (mergeP s1 bs)
  | [], bs, _, hb => by rw [mergeP_nil_left]; exact hb
  | a :: s1, [], ha, _ => by rw [mergeP_nil_right]; exact ha
  | a :: s1, b :: bs, ha, hb => by
    have ha' := ha
    have hb' := hb
    unfold AscP at ha' hb'
    rw [List.pairwise_cons] at ha' hb'
    rw [mergeP_cons]
    by_cases h1 : lessR a.2 b.2 = true
    · rw [if_pos h1]
      unfold AscP
      rw [List.pairwise_cons]
      refine ⟨fun z hz => ?_, mergeP_asc s1 (b :: bs) ha'.2 hb⟩
      rcases mergeP_mem s1 (b :: bs) z hz with h | h
      · exact ha'.1 z h
      · rw [List.mem_cons] at h
        rcases h with rfl | h
        · exact h1
        · exact lessR_trans _ _ _ h1 (hb'.1 z h)
    · rw [if_neg h1]
      by_cases h2 : lessR b.2 a.2 = true
      · rw [if_pos h2]
        unfold AscP
        rw [List.pairwise_cons]
        refine ⟨fun z hz => ?_, mergeP_asc (a :: s1) bs ha hb'.2⟩
        rcases mergeP_mem (a :: s1) bs z hz with h | h
        · rw [List.mem_cons] at h
          rcases h with rfl | h
          · exact h2
          · exact lessR_trans _ _ _ h2 (ha'.1 z h)
        · exact hb'.1 z h
      · rw [if_neg h2]; exact mergeP_asc (a :: s1) bs ha hb'.2
termination_by s1 bs => s1.length + bs.length
theorem mergeP_rows : ∀ (s1 bs : List (Value × List Int)) (x : List Int), (x ∈ (mergeP s1 bs).map (·.2)) ↔ x ∈ s1.map (·.2) ∨ x ∈ bs.map (·.2)
  | [], bs, x => by rw [mergeP_nil_left]; simp
  | a :: s1, [], x => by rw [mergeP_nil_right]; simp
  | a :: s1, b :: bs, x => by
    rw [mergeP_cons]
    by_cases h1 : lessR a.2 b.2 = true
    · rw [if_pos h1]
      have ih := mergeP_rows s1 (b :: bs) x
      simp only [List.map_cons, List.mem_cons] at ih ⊢
      rw [ih]
      constructor
      · rintro (h | h | h | h)
        · exact .inl (.inl h)
        · exact .inl (.inr h)
        · exact .inr (.inl h)
        · exact .inr (.inr h)
      · rintro ((h | h) | h | h)
        · exact .inl h
        · exact .inr (.inl h)
        · exact .inr (.inr (.inl h))
        · exact .inr (.inr (.inr h))
    · rw [if_neg h1]
      have ih := mergeP_rows (a :: s1) bs x
      by_cases h2 : lessR b.2 a.2 = true
      · rw [if_pos h2]
        simp only [List.map_cons, List.mem_cons] at ih ⊢
        rw [ih]
        constructor
        · rintro (h | (h | h) | h)
          · exact .inr (.inl h)
          · exact .inl (.inl h)
          · exact .inl (.inr h)
          · exact .inr (.inr h)
        · rintro ((h | h) | h | h)
          · exact .inr (.inl (.inl h))
          · exact .inr (.inl (.inr h))
          · exact .inl h
          · exact .inr (.inr h)
      · have e := lessR_total _ _ (by simpa using h1) (by simpa using h2)
        rw [if_neg h2]
        simp only [List.map_cons, List.mem_cons] at ih ⊢
        rw [ih]
        constructor
        · rintro ((h | h) | h)
          · exact .inl (.inl h)
          · exact .inl (.inr h)
          · exact .inr (.inr h)
        · rintro ((h | h) | h | h)
          · exact .inl (.inl h)
          · exact .inl (.inr h)
          · exact .inl (.inl (by rw [h, e]))
          · exact .inr h
termination_by s1 bs => s1.length + bs.length
theorem mergeP_pair {R : Value × List Int → Value × List Int → Prop} : ∀ (s1 bs : List (Value × List Int)), s1.Pairwise R → bs.Pairwise R → (∀ x ∈ s1, ∀ y ∈ bs, R x y ∧ R y x) → (mergeP s1 bs).Pairwise R
  | [], bs, _, hb, _ => by rw [mergeP_nil_left]; exact hb
  | a :: s1, [], ha, _, _ => by rw [mergeP_nil_right]; exact ha
  | a :: s1, b :: bs, ha, hb, hab => by
    have ha' := ha
    have hb' := hb
    rw [List.pairwise_cons] at ha' hb'
    rw [mergeP_cons]
    split
    · rw [List.pairwise_cons]
      refine ⟨fun z hz => ?_, mergeP_pair s1 (b :: bs) ha'.2 hb (fun x hx y hy => hab x (by simp [hx]) y hy)⟩
      rcases mergeP_mem s1 (b :: bs) z hz with h | h
      · exact ha'.1 z h
      · exact (hab a (by simp) z h).1
    · split
      · rw [List.pairwise_cons]
        refine ⟨fun z hz => ?_, mergeP_pair (a :: s1) bs ha hb'.2 (fun x hx y hy => hab x hx y (by simp [hy]))⟩
        rcases mergeP_mem (a :: s1) bs z hz with h | h
        · exact (hab z h b (by simp)).2
        · exact hb'.1 z h
      · exact mergeP_pair (a :: s1) bs ha hb'.2 (fun x hx y hy => hab x hx y (by simp [hy]))
termination_by s1 bs => s1.length + bs.length
theorem mergeP_len : ∀ (s1 bs : List (Value × List Int)), (mergeP s1 bs).length ≤ s1.length + bs.length
  | [], bs => by rw [mergeP_nil_left]; simp
  | a :: s1, [] => by rw [mergeP_nil_right]; simp
  | a :: s1, b :: bs => by
    rw [mergeP_cons]
    split
    · have := mergeP_len s1 (b :: bs); simp at *; omega
    · split
      · have := mergeP_len (a :: s1) bs; simp at *; omega
      · have := mergeP_len (a :: s1) bs; simp at *; omega
termination_by s1 bs => s1.length + bs.length
end Go.Proofs.Ytpnapdhcdhcacaa
namespace Go.Proofs.Ytpnapdhcdhcacaa
open Go.RowKit

def cmpI (x y : Int) : Int := if x < y then -1 else if y < x then 1 else 0
/-- The order of rows as a number. -/
def cmpL : List Int → List Int → Int
  | [], [] => 0
  | [], _ :: _ => -1
  | _ :: _, [] => 1
  | a :: s, b :: t => if cmpI a b = 0 then cmpL s t else cmpI a b
theorem cmpI_zero {x y : Int} : cmpI x y = 0 ↔ x = y := by
  unfold cmpI
  split
  · constructor <;> (intro; omega)
  · split
    · constructor <;> (intro; omega)
    · constructor <;> (intro; omega)
theorem cmpL_less : ∀ (a b : List Int), decide (cmpL a b < 0) = lessR a b
  | [], [] => rfl
  | [], _ :: _ => rfl
  | _ :: _, [] => rfl
  | a :: s, b :: t => by
    unfold cmpL lessR
    by_cases h : a = b
    · rw [if_pos (cmpI_zero.2 h), if_pos h]; exact cmpL_less s t
    · rw [if_neg (fun e => h (cmpI_zero.1 e)), if_neg h]
      unfold cmpI
      by_cases h1 : a < b
      · simp [h1]
      · rw [if_neg h1, if_pos (by omega)]; simp [h1]
theorem cmpL_drop {a b : List Int} {k : Nat} (h1 : k < a.length) (h2 : k < b.length) : cmpL (a.drop k) (b.drop k) = if cmpI a[k] b[k] = 0 then cmpL (a.drop (k + 1)) (b.drop (k + 1)) else cmpI a[k] b[k] := by
  rw [List.drop_eq_getElem_cons h1, List.drop_eq_getElem_cons h2]; rfl

end Go.Proofs.Ytpnapdhcdhcacaa
namespace Go.Proofs.Ytpnapdhcdhcacaa
open Go.RowKit

/-- The block b holds the values r, and 0 behind them, in five cells. -/
def RecAt (w : World) (b : Nat) (r : List Int) : Prop := ∀ j, j < 5 → w.cell? ⟨b, j, none⟩ = some (.int .i64 (r.getD j 0)) ∧ w.frozen? ⟨b, j, none⟩ = false
theorem RecAt.kept {w w' : World} {b C : Nat} {r : List Int} (h : RecAt w b r) (hb : Below C w w') (hC : b < C) : RecAt w' b r := fun j hj => ⟨(hb.cell hC).trans (h j hj).1, (hb.frozen hC).trans (h j hj).2⟩
theorem getD_end (l : List Int) (j : Nat) (h : l.length ≤ j) : l.getD j 0 = 0 := by rw [List.getD_eq_getElem?_getD, List.getElem?_eq_none h]; rfl
theorem getD_app (l : List Int) (x : Int) (j : Nat) : (l ++ [x]).getD j 0 = if j = l.length then x else l.getD j 0 := by
  by_cases h : j < l.length + 1
  · rw [getD_snoc _ _ _ _ h]
    by_cases h2 : j = l.length
    · simp [h2]
    · rw [if_pos (by omega), if_neg h2]
  · rw [if_neg (by omega), getD_end l j (by omega), getD_end (l ++ [x]) j (by rw [List.length_append, List.length_singleton]; omega)]
theorem RecAt.store {w : World} {b : Nat} {l : List Int} (h : RecAt w b l) (x : Int) (h5 : l.length < 5) : RecAt (w.setCell ⟨b, l.length, none⟩ (.int .i64 x)) b (l ++ [x]) := by
  intro j hj
  rw [getD_app, World.frozen?_setCell]
  refine ⟨?_, (h j hj).2⟩
  by_cases hjl : j = l.length
  · subst hjl
    rw [if_pos rfl]
    exact World.cell?_setCell_same _ _ _ (h _ h5).1
  · rw [if_neg hjl]
    exact (World.cell?_setCell_other _ _ _ _ (by intro e; simp only [Addr.mk.injEq] at e; omega)).trans (h j hj).1
theorem RecAt.drewN {w : World} {b : Nat} {l : List Int} (h : RecAt w b l) (n : Nat) : RecAt (w.drewN n) b l := fun j hj => h j hj
theorem RecAt.fresh (w : World) : RecAt (w.alloc (.cells #[.int .i64 0, .int .i64 0, .int .i64 0, .int .i64 0, .int .i64 0] 112)) w.heap.size [] := by
  intro j hj
  rw [show ([] : List Int).getD j 0 = 0 by simp]
  refine ⟨?_, ?_⟩
  · rw [World.cell?_alloc_mark w #[.int .i64 0, .int .i64 0, .int .i64 0, .int .i64 0, .int .i64 0] 112 (0, 0) j]
    rcases (show j = 0 ∨ j = 1 ∨ j = 2 ∨ j = 3 ∨ j = 4 by omega) with rfl | rfl | rfl | rfl | rfl <;> rfl
  · exact World.frozen?_alloc_new _ _ _ _
set_option maxHeartbeats 1600000 in
theorem recordOf_any (v vc : Value) (r cs : List Int) (w : World) (hr : ReadI w v r) (hc : ReadI w vc cs) (h5 : cs.length ≤ 5) (hin : ∀ x ∈ cs, 0 ≤ x ∧ x < (r.length : Int)) :
    Calls Try.prog 105 #[v, vc] w fun e w' => ∃ b, e = .returned (.pointer (some ⟨b, 0, none⟩)) ∧ RecAt w' b (cs.map fun k => r.getD k.toNat 0) ∧ w.heap.size ≤ b ∧ b < w'.heap.size ∧ Below w.heap.size w w' := by
  obtain ⟨a, cap, rfl, ha⟩ := hr
  obtain ⟨a', cap', rfl, ha'⟩ := hc
  have HA := Lib.hid ha
  have HA' := Lib.hid ha'
  have HIN := Lib.hid hin
  clear ha ha' hin
  have hb1 := (Below.refl w.heap.size w).alloc (Nat.le_refl _) (.cells #[.int .i64 0, .int .i64 0, .int .i64 0, .int .i64 0, .int .i64 0] 112)
  have hrec := RecAt.fresh w
  have hsz : w.heap.size < (w.alloc (.cells #[.int .i64 0, .int .i64 0, .int .i64 0, .int .i64 0, .int .i64 0] 112)).heap.size := by simp
  go_enter Try.func105, Try.ntmps105
  go_wp2_with fail
  go_loopw [11] (fun iv wr => ∃ (k : Nat) (l : List Int), k ≤ cs.length ∧ iv = .int .i64 (k : Int) ∧ Hid (l = (cs.take k).map fun k => r.getD k.toNat 0) ∧ RecAt wr w.heap.size l ∧ w.heap.size < wr.heap.size ∧ Below w.heap.size w wr) (fun iv _ => cs.length - (intOf iv).toNat)
  case atStart => exact ⟨0, [], by omega, rfl, Lib.hid rfl, hrec, hsz, hb1⟩
  case round =>
    clear hrec hsz hb1
    obtain ⟨k, l, hk, rfl, hL, hrec, hsz, hb⟩ := hrel
    have hll : l.length = k := by rw [hL.out, List.length_map, List.length_take]; omega
    by_cases hlt : k < cs.length
    · obtain ⟨x', rfl, hx'⟩ := HA'.out k hlt
      have hin := HIN.out cs[k] (List.getElem_mem _)
      obtain ⟨q, hq⟩ : ∃ q : Nat, cs[k] = (q : Int) := ⟨cs[k].toNat, by omega⟩
      rw [hq] at hin hx'
      obtain ⟨x, rfl, hx⟩ := HA.out q (by omega)
      have hgd := get_getD r q (by omega)
      rw [hgd] at hx
      have hy := (hb.cell (World.block_lt_of_cell? w _ hx)).trans hx
      have hy' := (hb.cell (World.block_lt_of_cell? w _ hx')).trans hx'
      have HS := Lib.hid (map_take_succ cs (fun k => r.getD k.toNat 0) 0 k hlt)
      have hgc := get_getD cs k hlt
      rw [← hgc, hq, show ((q : Nat) : Int).toNat = q from rfl] at HS
      obtain ⟨y, hyy⟩ : ∃ y, r.getD q 0 = y := ⟨_, rfl⟩
      rw [hyy] at hy HS
      have z0 : (0 : Int) ≤ (k : Int) := by omega
      have z1 : (k : Int) < (cs.length : Int) := by omega
      have z2 : (k : Int) < 5 := by omega
      have z3 : (0 : Int) ≤ (q : Int) := by omega
      have z4 : (q : Int) < (r.length : Int) := by omega
      obtain ⟨hcell, hfz⟩ := hrec k (by omega)
      have HR := Lib.hid hrec
      have HB := Lib.hid hb
      have HLL := Lib.hid hll
      clear hx hx' hyy hgd hgc hq hrec hb hll hin
      go_wp2_with fail
      go_region
      go_wp2_with fail
      go_roundw
      case rel =>
        have hs := HR.out.store y (by rw [HLL.out]; omega)
        rw [HLL.out] at hs
        exact ⟨k + 1, _, by omega, by go_num, Lib.hid (by rw [HS.out, hL.out]), hs.drewN 1, by simpa using hsz, (HB.out.setCell (Nat.le_refl _) _).drew⟩
      case measure => simp [intOf]; omega
    · obtain rfl : k = cs.length := by omega
      go_wp2_with fail
      go_ret
      exact ⟨_, rfl, by have := hL.out; rw [List.take_length] at this; rw [← this]; exact hrec, Nat.le_refl _, hsz, hb⟩
/-- A record, read as a slice of five ints. -/
def pad5 (r : List Int) : List Int := (List.range 5).map fun j => r.getD j 0
theorem pad5_get (r : List Int) (j : Nat) (h : j < (pad5 r).length) : (pad5 r)[j] = r.getD j 0 := by simp [pad5]
theorem pad5_len (r : List Int) : (pad5 r).length = 5 := by simp [pad5]
theorem RecAt.read {w : World} {b : Nat} {r : List Int} (h : RecAt w b r) : ReadI w (.slice (some ⟨b, 0, none⟩) 5 5) (pad5 r) := by
  refine ⟨some ⟨b, 0, none⟩, 5, by rw [pad5_len], fun i hi => ⟨_, rfl, ?_⟩⟩
  rw [add_zero_off, (h i (by rw [pad5_len] at hi; exact hi)).1, pad5_get]
end Go.Proofs.Ytpnapdhcdhcacaa
namespace Go.Proofs.Ytpnapdhcdhcacaa
open Go.RowKit

/-- The six cells of a row's sides. -/
def sidC (s : List Int) : List Value := [.int .i64 (s.getD 0 0), .int .i64 (s.getD 1 0), .int .i64 (s.getD 2 0), .int .i64 (s.getD 3 0), .int .i64 (s.getD 4 0), .int .i64 (s.getD 5 0)]
theorem sidC_get (s : List Int) {j : Nat} (h : j < 6) : (sidC s)[j]? = some (.int .i64 (s.getD j 0)) := by
  rcases (show j = 0 ∨ j = 1 ∨ j = 2 ∨ j = 3 ∨ j = 4 ∨ j = 5 by omega) with rfl | rfl | rfl | rfl | rfl | rfl <;> rfl
def sidsV : List (List Int) → List Value
  | [] => []
  | s :: t => sidC s ++ sidsV t
theorem sidsV_len : ∀ l : List (List Int), (sidsV l).length = l.length * 6
  | [] => rfl
  | s :: t => by simp only [sidsV, List.length_append, List.length_cons, sidsV_len t]; simp [sidC]; omega
theorem sidsV_get : ∀ (l : List (List Int)) (i : Nat), i < l.length → ∀ j, j < 6 → (sidsV l)[i * 6 + j]? = some (.int .i64 ((l.getD i []).getD j 0))
  | [], i, h, _, _ => absurd h (Nat.not_lt_zero _)
  | s :: t, 0, _, j, hj => by
    have : (sidsV (s :: t))[0 * 6 + j]? = (sidC s)[j]? := by
      rw [Nat.zero_mul, Nat.zero_add]
      show (sidC s ++ sidsV t)[j]? = _
      exact List.getElem?_append_left (by simp [sidC]; omega)
    rw [this]
    exact sidC_get s hj
  | s :: t, i + 1, h, j, hj => by
    have ih := sidsV_get t i (by simpa using h) j hj
    have : (sidsV (s :: t))[(i + 1) * 6 + j]? = (sidsV t)[i * 6 + j]? := by
      show (sidC s ++ sidsV t)[(i + 1) * 6 + j]? = _
      rw [List.getElem?_append_right (by simp [sidC]; omega)]
      congr 1
      simp [sidC]; omega
    rw [this, ih]; rfl
theorem sidsV_app (s : List Int) : ∀ l : List (List Int), sidsV (l ++ [s]) = sidsV l ++ sidC s
  | [] => by simp [sidsV]
  | t :: l => by simp only [List.cons_append, sidsV, sidsV_app s l, List.append_assoc]
/-- A slice of sides that the call owns. -/
def OwnSd (w : World) (B : Nat) (v : Value) (l : List (List Int)) : Prop := w.ownsRow B 116 6 v l.length (sidsV l)
/-- A slice of sides that can be read. -/
def ReadSd (w : World) (v : Value) (l : List (List Int)) : Prop :=
  ∃ (a : Option Addr) (cap : Nat), v = .slice a l.length cap ∧ ∀ i, i < l.length → ∃ b o, a = some ⟨b, o, none⟩ ∧ ∀ j, j < 6 → w.cell? ⟨b, o + i * 6 + j, none⟩ = some (.int .i64 ((l.getD i []).getD j 0))
theorem infoSd : (Try.prog.info? 116).map (fun i => (i.zero, i.size, i.bytes)) = some (some (.agg #[.int .i64 0, .int .i64 0, .int .i64 0, .int .i64 0, .int .i64 0, .int .i64 0]), 6, 48) := by kernel_rfl
theorem OwnSd.read {w : World} {B : Nat} {v : Value} {l : List (List Int)} (h : OwnSd w B v l) : ReadSd w v l := by
  rcases h.2 with ⟨rfl, h0⟩ | ⟨g, cap, cur, rfl, hB, hgg, rest⟩
  · exact ⟨none, 0, by rw [h0], fun i hi => by omega⟩
  · refine ⟨_, cap, rfl, fun i hi => ⟨g, 0, rfl, fun j hj => ?_⟩⟩
    rw [Nat.zero_add, World.ownsRow.cellAt h (i * 6 + j) (by omega), sidsV_get l i hi j hj]
theorem ReadSd.kept {w w' : World} {v : Value} {l : List (List Int)} (h : ReadSd w v l) (hb : Below w.heap.size w w') : ReadSd w' v l := by
  obtain ⟨a, cap, hv, hc⟩ := h
  refine ⟨a, cap, hv, fun i hi => ?_⟩
  obtain ⟨b, o, ha, h0⟩ := hc i hi
  exact ⟨b, o, ha, fun j hj => (hb.cell (World.block_lt_of_cell? w _ (h0 j hj))).trans (h0 j hj)⟩
theorem OwnSd.lt {w : World} {B : Nat} {v : Value} {l : List (List Int)} (h : OwnSd w B v l) : ∀ k, v.ownBlock = some k → B ≤ k ∧ k < w.heap.size := World.ownsRow.lt h
theorem OwnSd.below {w w' : World} {B C : Nat} {v : Value} {l : List (List Int)} (h : OwnSd w B v l) (hb : Below C w w') (hC : ∀ k, v.ownBlock = some k → k < C) : OwnSd w' B v l := by
  refine ⟨h.1, ?_⟩
  rcases h.2 with hn | ⟨g, cap, cur, rfl, hB, hgg, rest⟩
  · exact .inl hn
  · exact .inr ⟨g, cap, cur, rfl, hB, (hb.block g (hC g rfl)).trans hgg, rest⟩
theorem OwnSd.nil (w : World) (B : Nat) : OwnSd w B (.slice none 0 0) [] := World.ownsRow_nil _ _ _ _
theorem OwnSd.made {w : World} {B : Nat} {v : Value} (h : w.ownsRow B 116 6 v 0 []) : OwnSd w B v [] := h
theorem OwnSd.snoc {w : World} {B : Nat} {v : Value} {l : List (List Int)} {s : List Int} (h : w.ownsRow B 116 6 v (l.length + 1) (sidsV l ++ sidC s)) : OwnSd w B v (l ++ [s]) := by
  unfold OwnSd
  rw [List.length_append, List.length_singleton, sidsV_app]; exact h
/-- Six cells in a block of their own. -/
def Box6 (w : World) (b : Nat) (a0 a1 a2 a3 a4 a5 : Int) : Prop :=
  w.cell? ⟨b, 0, none⟩ = some (.int .i64 a0) ∧ w.cell? ⟨b, 1, none⟩ = some (.int .i64 a1) ∧ w.cell? ⟨b, 2, none⟩ = some (.int .i64 a2) ∧ w.cell? ⟨b, 3, none⟩ = some (.int .i64 a3) ∧ w.cell? ⟨b, 4, none⟩ = some (.int .i64 a4) ∧ w.cell? ⟨b, 5, none⟩ = some (.int .i64 a5)
theorem Box6.new (w : World) (T : TypeId) (a0 a1 a2 a3 a4 a5 : Int) : Box6 (w.alloc (.cells #[.int .i64 a0, .int .i64 a1, .int .i64 a2, .int .i64 a3, .int .i64 a4, .int .i64 a5] T)) w.heap.size a0 a1 a2 a3 a4 a5 := by
  have h := World.cell?_alloc_mark w #[.int .i64 a0, .int .i64 a1, .int .i64 a2, .int .i64 a3, .int .i64 a4, .int .i64 a5] T (0, 0)
  exact ⟨(h 0).trans rfl, (h 1).trans rfl, (h 2).trans rfl, (h 3).trans rfl, (h 4).trans rfl, (h 5).trans rfl⟩
theorem Box6.kept {w w' : World} {b C : Nat} {a0 a1 a2 a3 a4 a5 : Int} (h : Box6 w b a0 a1 a2 a3 a4 a5) (hb : Below C w w') (hC : b < C) : Box6 w' b a0 a1 a2 a3 a4 a5 :=
  ⟨(hb.cell hC).trans h.1, (hb.cell hC).trans h.2.1, (hb.cell hC).trans h.2.2.1, (hb.cell hC).trans h.2.2.2.1, (hb.cell hC).trans h.2.2.2.2.1, (hb.cell hC).trans h.2.2.2.2.2⟩
end Go.Proofs.Ytpnapdhcdhcacaa
namespace Go.Proofs.Ytpnapdhcdhcacaa
open Go.RowKit

theorem equal_rec {a b : List Int} (ha : R5 a) (hb : R5 b) (w : World) : (Op.equalIn 10000 112 (recV a) (recV b)).run Try.prog w = .ok (decide (a = b)) w := by
  obtain ⟨r, h1, h2⟩ := run_equal_deep w (m := 2) (by omega) (k := 112) (arrR.at 0) (by simp only [arrR.hu]) (keyOf_klR ha) (keyOf_klR hb)
  have hr : r = decide (a = b) := by
    rw [Bool.eq_iff_iff, h2, decide_eq_true_iff]
    exact ⟨klR_inj ha hb, fun e => by rw [e]⟩
  rw [← hr]; exact h1
theorem equal_sid {a b : List Int} (ha : S6 a) (hb : S6 b) (w : World) : (Op.equalIn 10000 116 (sidV a) (sidV b)).run Try.prog w = .ok (decide (a = b)) w := by
  obtain ⟨r, h1, h2⟩ := run_equal_deep w (m := 3) (by omega) (k := 116) (by kernel_rfl) (by simp only [Try.underlying116]) (keyOf_klS ha) (keyOf_klS hb)
  have hr : r = decide (a = b) := by
    rw [Bool.eq_iff_iff, h2, decide_eq_true_iff]
    exact ⟨klS_inj ha hb, fun e => by rw [e]⟩
  rw [← hr]; exact h1
theorem take5_get (a : List Int) {j : Nat} (h : j < 5) : (a.take 5).getD j 0 = a.getD j 0 := by
  rw [List.getD_eq_getElem?_getD, List.getD_eq_getElem?_getD, List.getElem?_take, if_pos h]
theorem s6_r5 {a : List Int} (h : S6 a) : R5 (a.take 5) := ⟨by rw [List.length_take, h.1]; rfl, fun j hj => by rw [take5_get a hj]; exact h.2 j (by omega)⟩
theorem take5_rec (a : List Int) : recV (a.take 5) = .agg #[.int .i64 (a.getD 0 0), .int .i64 (a.getD 1 0), .int .i64 (a.getD 2 0), .int .i64 (a.getD 3 0), .int .i64 (a.getD 4 0)] := by
  unfold recV
  rw [take5_get a (by omega), take5_get a (by omega), take5_get a (by omega), take5_get a (by omega), take5_get a (by omega)]
set_option maxRecDepth 20000 in
set_option maxHeartbeats 800000 in
theorem violate_any (a b : List Int) (w : World) (ha : S6 a) (hb : S6 b) :
    Calls Try.prog 106 #[sidV a, sidV b] w fun e w' => e = .returned (.bool (decide (a.take 5 = b.take 5) && !decide (a = b))) ∧ Below w.heap.size w w' := by
  have hR := equal_rec (s6_r5 ha) (s6_r5 hb)
  have hS := equal_sid ha hb
  rw [take5_rec, take5_rec] at hR
  unfold sidV at hS ⊢
  generalize a.getD 0 0 = a0, a.getD 1 0 = a1, a.getD 2 0 = a2, a.getD 3 0 = a3, a.getD 4 0 = a4, a.getD 5 0 = a5 at *
  generalize b.getD 0 0 = b0, b.getD 1 0 = b1, b.getD 2 0 = b2, b.getD 3 0 = b3, b.getD 4 0 = b4, b.getD 5 0 = b5 at *
  have hx := Box6.new w 116 a0 a1 a2 a3 a4 a5
  have hs : (w.alloc (.cells #[.int .i64 a0, .int .i64 a1, .int .i64 a2, .int .i64 a3, .int .i64 a4, .int .i64 a5] 116)).heap.size = w.heap.size + 1 := by simp
  have hy := Box6.new (w.alloc (.cells #[.int .i64 a0, .int .i64 a1, .int .i64 a2, .int .i64 a3, .int .i64 a4, .int .i64 a5] 116)) 116 b0 b1 b2 b3 b4 b5
  rw [hs] at hy
  replace hx := hx.kept ((Below.refl _ _).alloc (Nat.le_refl _) (.cells #[.int .i64 b0, .int .i64 b1, .int .i64 b2, .int .i64 b3, .int .i64 b4, .int .i64 b5] 116)) (by simp)
  obtain ⟨x0, x1, x2, x3, x4, x5⟩ := hx
  obtain ⟨y0, y1, y2, y3, y4, y5⟩ := hy
  have hbw := ((Below.refl w.heap.size w).alloc (Nat.le_refl _) (.cells #[.int .i64 a0, .int .i64 a1, .int .i64 a2, .int .i64 a3, .int .i64 a4, .int .i64 a5] 116)).alloc (by simp) (.cells #[.int .i64 b0, .int .i64 b1, .int .i64 b2, .int .i64 b3, .int .i64 b4, .int .i64 b5] 116)
  clear ha hb hs
  obtain ⟨p, hp⟩ : ∃ p, p = decide (a.take 5 = b.take 5) := ⟨_, rfl⟩
  obtain ⟨q, hq⟩ : ∃ q, q = decide (a = b) := ⟨_, rfl⟩
  rw [← hp] at hR ⊢
  rw [← hq] at hS ⊢
  clear hp hq
  cases p with
  | false =>
    go_enter Try.func106, Try.ntmps106
    go_wp2_with fail
    go_ret
    exact ⟨rfl, hbw⟩
  | true =>
    go_enter Try.func106, Try.ntmps106
    go_wp2_with fail
    go_ret
    exact ⟨ret_b (by cases q <;> rfl), hbw⟩
end Go.Proofs.Ytpnapdhcdhcacaa
