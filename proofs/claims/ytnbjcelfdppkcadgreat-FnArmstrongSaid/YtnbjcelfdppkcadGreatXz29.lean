/- Texts of this claim, merged: CovDraw2, ClV, ExT. Conditions: as stated. -/
import Derived.Test.YtnbjcelfdppkcadGreatXz28
import Derived.Test.YtnbjcelfdppkcadGreatXz2
import Derived.Test.YtnbjcelfdppkcadGreatXz18
import Derived.Test.YtnbjcelfdppkcadGreatXz12
import Derived.Test.YtnbjcelfdppkcadGreatXz3
import Derived.Test.YtnbjcelfdppkcadGreatXz13
import Derived.Laws.OwnMore
namespace Go.Proofs.YtnbjcelfdppkcadGreat
open Go.RowKit

theorem TdSt.below {W w x y : World} {v u uz : Value} {n c T B : Nat} {cc cz lz rz : Int} {ll : List (List Int)} (h : TdSt W v n c w T B cc u ll cz uz lz rz x) (hb : Below x.heap.size x y) : TdSt W v n c w T B cc u ll cz uz lz rz y :=
  h.still ⟨hb.os, hb.tape, hb.output, hb.size, fun j hj _ => hb.block j hj⟩
theorem ReadD.grown {w w' : World} {row : Option Nat} {v : Value} {ds : List (Int × Int)} (h : ReadD w v ds) (hg : w.grownBy w' row) (hr : ∀ b o, (∃ n k, v = .slice (some ⟨b, o, none⟩) n k) → row ≠ some b) : ReadD w' v ds := by
  obtain ⟨a, cap, hv, hc⟩ := h
  refine ⟨a, cap, hv, fun i hi => ?_⟩
  obtain ⟨b, o, ha, h0, h1⟩ := hc i hi
  have hb : w'.heap[b]? = w.heap[b]? := hg.block b (World.block_lt_of_cell? w _ h0) (fun e => hr b o ⟨ds.length, cap, by rw [hv, ha]⟩ e.symm)
  exact ⟨b, o, ha, (World.cell?_of_block (a := ⟨b, o + i * 2, none⟩) hb).trans h0, (World.cell?_of_block (a := ⟨b, o + i * 2 + 1, none⟩) hb).trans h1⟩
/-- A readable list of dependencies that lies above B. -/
def ReadDA (w : World) (B : Nat) (v : Value) (ds : List (Int × Int)) : Prop := ReadD w v ds ∧ ∀ b o n k, v = .slice (some ⟨b, o, none⟩) n k → B ≤ b
theorem ReadDA.grown {w w' : World} {B c : Nat} {v : Value} {ds : List (Int × Int)} (h : ReadDA w B v ds) (hg : w.grownBy w' (some c)) (hc : c < B) : ReadDA w' B v ds :=
  ⟨h.1.grown hg (fun b o ⟨n, k, e⟩ e' => by have := h.2 b o n k e; cases e'; omega), h.2⟩
theorem ReadDA.set {w : World} {B : Nat} {v : Value} {ds : List (Int × Int)} (h : ReadDA w B v ds) {p : Addr} (hp : p.block < B) (x : Value) : ReadDA (w.setCell p x) B v ds := by
  refine ⟨?_, h.2⟩
  refine h.1.grown (row := some p.block) (grown_cell w p x) (fun b o ⟨n, k, e⟩ e' => ?_)
  have := h.2 b o n k e
  cases e'
  omega
theorem ReadDA.at {w : World} {B : Nat} {a : Option Addr} {n cap : Nat} {ds : List (Int × Int)} (h : ReadDA w B (.slice a n cap) ds) {i : Nat} (hi : i < ds.length) : ∃ b o, a = some ⟨b, o, none⟩ ∧ w.cell? ⟨b, o + i * 2, none⟩ = some (.int .i64 (ds.getD i (0, 0)).1) ∧ w.cell? ⟨b, o + i * 2 + 1, none⟩ = some (.int .i64 (ds.getD i (0, 0)).2) := by
  obtain ⟨a', cap', hv, hc⟩ := h.1
  cases hv
  exact hc i hi
theorem OwnD.above {w : World} {B : Nat} {v : Value} {ds : List (Int × Int)} (h : OwnD w B v ds) : ReadDA w B v ds :=
  ⟨h.read, fun b o n k e => by
    rcases h.2 with ⟨rfl, h0⟩ | ⟨g, cap, cur, rfl, hB, rest⟩
    · cases e
    · cases e; exact hB⟩
theorem mdL_small {c m : Int} {ll : List (List Int)} {d : Int × Int} (h : d ∈ mdL c ll m) : 0 ≤ d.1 ∧ d.1 ≤ 31 ∧ 0 ≤ d.2 ∧ d.2 ≤ 4 := by
  unfold mdL at h
  split at h
  · rename_i hf
    have hb := isT_bd (fineT_isT hf)
    obtain ⟨r, r1, S, r2, -, rfl⟩ := (mdOut_mem _ _ _ _).1 h
    obtain ⟨X, rfl, hX⟩ := parts_small _ S r2
    simp only
    omega
  · cases h
section
set_option maxHeartbeats 6400000
set_option maxRecDepth 20000
end
end Go.Proofs.YtnbjcelfdppkcadGreat
namespace Go.Proofs.YtnbjcelfdppkcadGreat
open Go.RowKit

/-- A row: 0 in the columns of X, v in the others. -/
def rowA (X : Nat) (v : Int) : Nat → List Int
  | 0 => []
  | k + 1 => rowA X v k ++ [if bitB X k = true then 0 else v]
theorem rowA_len (X : Nat) (v : Int) : ∀ C, (rowA X v C).length = C
  | 0 => rfl
  | k + 1 => by unfold rowA; rw [List.length_append, rowA_len X v k]; rfl
theorem rowA_get (X : Nat) (v : Int) : ∀ C j, j < C → (rowA X v C).getD j 0 = if bitB X j = true then 0 else v
  | 0, _, h => absurd h (by omega)
  | k + 1, j, h => by
    unfold rowA
    rw [List.getD_eq_getElem?_getD]
    by_cases e : j < k
    · rw [List.getElem?_append_left (by rw [rowA_len]; exact e), ← List.getD_eq_getElem?_getD]
      exact rowA_get X v k j e
    · obtain rfl : j = k := by omega
      rw [List.getElem?_append_right (by rw [rowA_len]; omega), rowA_len, Nat.sub_self]
      rfl
theorem rowA_mem {X : Nat} {v : Int} : ∀ {C : Nat} {x : Int}, x ∈ rowA X v C → x = 0 ∨ x = v
  | 0, _, h => by cases h
  | k + 1, x, h => by
    unfold rowA at h
    rw [List.mem_append] at h
    rcases h with h | h
    · exact rowA_mem h
    · rw [List.mem_singleton] at h
      rw [h]
      split
      · exact .inl rfl
      · exact .inr rfl
/-- The rows of a list of sets and values. -/
def rowsA (C : Nat) (ps : List (Nat × Int)) : List (List Int) := ps.map fun p => rowA p.1 p.2 C
theorem rowsA_get (C : Nat) (ps : List (Nat × Int)) {i : Nat} (h : i < ps.length) : (rowsA C ps).getD i [] = rowA (ps.getD i (0, 0)).1 (ps.getD i (0, 0)).2 C := by
  unfold rowsA
  rw [List.getD_eq_getElem?_getD, List.getElem?_map, List.getD_eq_getElem?_getD, List.getElem?_eq_getElem h]
  rfl
/-- The values ascend, from 0 with all columns on. -/
structure AscZ (C : Nat) (ps : List (Nat × Int)) : Prop where
  pos : 0 < ps.length
  first : ps.getD 0 (0, 0) = (2 ^ C - 1, 0)
  asc : ∀ a b, a < b → b < ps.length → (ps.getD a (0, 0)).2 < (ps.getD b (0, 0)).2
theorem full_bit : ∀ (C : Fin 6) (j : Fin 5), bitB (2 ^ C.val - 1) j.val = decide (j.val < C.val) := by decide +kernel
theorem low12 : ∀ (C : Fin 6) (x : Fin 32) (j : Fin 5), x.val < 2 ^ C.val → C.val ≤ j.val → bitB x.val j.val = false := by decide +kernel
theorem AscZ.up {C : Nat} {ps : List (Nat × Int)} (h : AscZ C ps) {b : Nat} (hb0 : 0 < b) (hb : b < ps.length) : 0 < (ps.getD b (0, 0)).2 := by
  have := h.asc 0 b hb0 hb
  rw [h.first] at this
  exact this
/-- Two rows agree in what their sets have in common. -/
theorem rows_agree {C : Nat} (hC : C ≤ 5) {ps : List (Nat × Int)} (h : AscZ C ps) {a b : Nat} (hab : a < b) (hb : b < ps.length) {S : Nat} (hS : S < 2 ^ C) :
    agB C (rowsA C ps) 0 (S : Int) a b = true ↔ ∀ j, j < C → bitB S j = true → bitB (ps.getD a (0, 0)).1 j = true ∧ bitB (ps.getD b (0, 0)).1 j = true := by
  rw [agB_iff C (rowsA C ps) 0 S a b hC hS]
  have hv := h.asc a b hab hb
  have hv0 := h.up (b := b) (by omega) hb
  have key : ∀ j, j < C → (eqC 0 (((rowsA C ps).getD a []).getD j 0) (((rowsA C ps).getD b []).getD j 0) = true ↔ bitB (ps.getD a (0, 0)).1 j = true ∧ bitB (ps.getD b (0, 0)).1 j = true) := by
    intro j hj
    rw [rowsA_get C ps (by omega), rowsA_get C ps hb, rowA_get _ _ C j hj, rowA_get _ _ C j hj]
    unfold eqC
    rw [decide_eq_true_iff]
    by_cases ha : a = 0
    · subst ha
      rw [h.first]
      simp only
      have hf := full_bit ⟨C, by omega⟩ ⟨j, by omega⟩
      simp only at hf
      rw [hf, decide_eq_true hj]
      obtain ⟨vb, hvb⟩ : ∃ vb, vb = (ps.getD b (0, 0)).2 := ⟨_, rfl⟩
      obtain ⟨Xb, hXb⟩ : ∃ Xb, Xb = (ps.getD b (0, 0)).1 := ⟨_, rfl⟩
      rw [← hvb] at hv0 ⊢
      rw [← hXb]
      cases bitB Xb j <;> simp <;> omega
    · have hva := h.up (b := a) (by omega) (by omega)
      obtain ⟨vb, hvb⟩ : ∃ vb, vb = (ps.getD b (0, 0)).2 := ⟨_, rfl⟩
      obtain ⟨Xb, hXb⟩ : ∃ Xb, Xb = (ps.getD b (0, 0)).1 := ⟨_, rfl⟩
      obtain ⟨u, hu⟩ : ∃ u, u = (ps.getD a (0, 0)).2 := ⟨_, rfl⟩
      obtain ⟨Xa, hXa⟩ : ∃ Xa, Xa = (ps.getD a (0, 0)).1 := ⟨_, rfl⟩
      rw [← hvb] at hv0 hv ⊢
      rw [← hu] at hv hva ⊢
      rw [← hXb, ← hXa]
      cases bitB Xa j <;> cases bitB Xb j <;> simp <;> omega
  constructor
  · intro h j hj hb; exact (key j hj).1 (h j hj hb)
  · intro h j hj hb; exact (key j hj).2 (h j hj hb)
/-- What holds in such a table hangs on the sets alone. -/
theorem rows_hold {C : Nat} (hC : C ≤ 5) {ps : List (Nat × Int)} (h : AscZ C ps) (hX : ∀ p ∈ ps, p.1 < 2 ^ C) {L R : Nat} (hL : L < 2 ^ C) (hR : R < C) :
    HoldsAll C (rowsA C ps) 0 L R ↔ ∀ p ∈ ps, subN L p.1 = true → bitB p.1 R = true := by
  have h32 := two5 hC
  have hR2 : 2 ^ R < 2 ^ C := Nat.pow_lt_pow_right (by omega) hR
  have hlen : (rowsA C ps).length = ps.length := List.length_map _
  have hpb := fun (j : Nat) (hj : j < 5) => pow_bit ⟨R, by omega⟩ ⟨j, hj⟩
  simp only at hpb
  have hmem : ∀ {i : Nat}, i < ps.length → ps.getD i (0, 0) ∈ ps := fun {i} hi => by
    rw [List.getD_eq_getElem?_getD, List.getElem?_eq_getElem hi]; exact List.getElem_mem hi
  have hsub : ∀ {X : Nat}, X < 2 ^ C → (subN L X = true ↔ ∀ j, j < C → bitB L j = true → bitB X j = true) := fun {X} hX => by
    rw [subN_bit ⟨L, by omega⟩ ⟨X, by omega⟩]
    constructor
    · intro h j hj hb; exact h ⟨j, by omega⟩ hb
    · intro h j hb
      by_cases hj : j.val < C
      · exact h j hj hb
      · have := low12 ⟨C, by omega⟩ ⟨L, by omega⟩ j hL (Nat.not_lt.1 hj)
        rw [this] at hb
        cases hb
  constructor
  · intro hh p hp hs
    obtain ⟨b, hb, rfl⟩ := List.getElem_of_mem hp
    have hg : ps.getD b (0, 0) = ps[b] := by rw [List.getD_eq_getElem?_getD, List.getElem?_eq_getElem hb]; rfl
    rw [← hg] at hs hp ⊢
    by_cases hb0 : b = 0
    · subst hb0
      rw [h.first]
      have hf := full_bit ⟨C, by omega⟩ ⟨R, by omega⟩
      simp only at hf
      rw [hf, decide_eq_true hR]
    · have h1 := hh 0 b (by omega) (by rw [hlen]; exact hb) ((rows_agree hC h (by omega) hb hL).2 fun j hj hbj => ⟨by
        rw [h.first]
        have hf := full_bit ⟨C, by omega⟩ ⟨j, by omega⟩
        simp only at hf
        rw [hf, decide_eq_true hj], (hsub (hX _ hp)).1 hs j hj hbj⟩)
      exact ((rows_agree hC h (by omega) hb hR2).1 h1 R hR (by rw [hpb R (by omega)]; exact decide_eq_true rfl)).2
  · intro hh a b hab hb hag
    rw [hlen] at hb
    have h1 := (rows_agree hC h hab hb hL).1 hag
    refine (rows_agree hC h hab hb hR2).2 fun j hj hbj => ?_
    rw [hpb j (by omega)] at hbj
    have e : j = R := of_decide_eq_true hbj
    subst e
    exact ⟨hh _ (hmem (by omega)) ((hsub (hX _ (hmem (by omega)))).2 fun j hj hbj => (h1 j hj hbj).1), hh _ (hmem hb) ((hsub (hX _ (hmem hb))).2 fun j hj hbj => (h1 j hj hbj).2)⟩
/-- The sets and values of an example table: all columns, and each closed set but that one. -/
def armP (C : Nat) (c : List Int) : Nat → List (Nat × Int)
  | 0 => [(2 ^ C - 1, 0)]
  | i + 1 => if c.getD i 0 = (2 : Int) ^ C - 1 then armP C c i else armP C c i ++ [((c.getD i 0).toNat, (i : Int) + 1)]
theorem armP_mem {C : Nat} {c : List Int} {p : Nat × Int} : ∀ i, (p ∈ armP C c i ↔ p = (2 ^ C - 1, 0) ∨ ∃ j, j < i ∧ c.getD j 0 ≠ (2 : Int) ^ C - 1 ∧ p = ((c.getD j 0).toNat, (j : Int) + 1))
  | 0 => by
    unfold armP
    rw [List.mem_singleton]
    constructor
    · exact .inl
    · rintro (h | ⟨j, h, -⟩)
      · exact h
      · exact absurd h (by omega)
  | i + 1 => by
    have ih := armP_mem (C := C) (c := c) (p := p) i
    unfold armP
    split
    · rename_i he
      rw [ih]
      constructor
      · rintro (h | ⟨j, h1, h2⟩)
        · exact .inl h
        · exact .inr ⟨j, by omega, h2⟩
      · rintro (h | ⟨j, h1, h2, h3⟩)
        · exact .inl h
        · by_cases e : j = i
          · subst e; exact absurd he h2
          · exact .inr ⟨j, by omega, h2, h3⟩
    · rename_i he
      rw [List.mem_append, List.mem_singleton, ih]
      constructor
      · rintro ((h | ⟨j, h1, h2⟩) | h)
        · exact .inl h
        · exact .inr ⟨j, by omega, h2⟩
        · exact .inr ⟨i, by omega, he, h⟩
      · rintro (h | ⟨j, h1, h2, h3⟩)
        · exact .inl (.inl h)
        · by_cases e : j = i
          · subst e; exact .inr h3
          · exact .inl (.inr ⟨j, by omega, h2, h3⟩)
theorem armP_len (C : Nat) (c : List Int) : ∀ i, (armP C c i).length ≤ i + 1
  | 0 => Nat.le_refl _
  | i + 1 => by
    have := armP_len C c i
    unfold armP
    split
    · omega
    · rw [List.length_append]; simp; omega
theorem armP_asc (C : Nat) (c : List Int) : ∀ i, AscZ C (armP C c i) ∧ ∀ p ∈ armP C c i, p.2 ≤ (i : Int)
  | 0 => by
    refine ⟨⟨Nat.zero_lt_one, rfl, fun a b h hb => ?_⟩, fun p hp => ?_⟩
    · unfold armP at hb
      simp at hb
      omega
    · unfold armP at hp
      rw [List.mem_singleton] at hp
      rw [hp]
      exact Int.le_refl _
  | i + 1 => by
    obtain ⟨h1, h2⟩ := armP_asc C c i
    unfold armP
    split
    · exact ⟨h1, fun p hp => by have := h2 p hp; omega⟩
    · have hg : ∀ a, a < (armP C c i).length → (armP C c i ++ [((c.getD i 0).toNat, (i : Int) + 1)]).getD a (0, 0) = (armP C c i).getD a (0, 0) := fun a ha => by
        rw [List.getD_eq_getElem?_getD, List.getElem?_append_left ha, ← List.getD_eq_getElem?_getD]
      refine ⟨⟨by rw [List.length_append]; have := h1.pos; omega, by rw [hg 0 h1.pos]; exact h1.first, fun a b hab hb => ?_⟩, fun p hp => ?_⟩
      · rw [List.length_append] at hb
        simp only [List.length_singleton] at hb
        rw [hg a (by omega)]
        by_cases e : b < (armP C c i).length
        · rw [hg b e]; exact h1.asc a b hab e
        · have hm : (armP C c i).getD a (0, 0) ∈ armP C c i := by
            rw [List.getD_eq_getElem?_getD, List.getElem?_eq_getElem (show a < (armP C c i).length by omega)]; exact List.getElem_mem _
          have := h2 _ hm
          have hb' : (armP C c i ++ [((c.getD i 0).toNat, (i : Int) + 1)]).getD b (0, 0) = ((c.getD i 0).toNat, (i : Int) + 1) := by
            rw [List.getD_eq_getElem?_getD, List.getElem?_append_right (by omega), show b - (armP C c i).length = 0 by omega]; rfl
          rw [hb']
          show _ < (i : Int) + 1
          omega
      · rw [List.mem_append, List.mem_singleton] at hp
        rcases hp with hp | hp
        · have := h2 p hp; omega
        · rw [hp]; exact Int.le_refl _
/-- The rows of the example table. -/
def armL (n : Int) (l : List (Int × Int)) : List (List Int) := if arD n l = true then rowsA n.toNat (armP n.toNat (clsL n l) (clsL n l).length) else []
theorem closed_full {C : Nat} {l : List (Int × Int)} (hC : C ≤ 5) (hl : DepsN C l) : ClosedN l (2 ^ C - 1) := by
  intro d hd _
  obtain ⟨L, R, e, hL, hR⟩ := hl d hd
  have hf := full_bit ⟨C, by omega⟩ ⟨R, by omega⟩
  simp only at hf
  rw [e]
  show bitB (2 ^ C - 1) R = true
  rw [hf, decide_eq_true hR]
theorem cls_len (n : Int) (l : List (Int × Int)) : (clsL n l).length ≤ 32 := by
  unfold clsL
  split
  · rename_i h
    obtain ⟨C, rfl, h1, h5, -, -⟩ := arD_n h
    have := brdTo_len (clB l) (2 ^ C)
    have := two5 h5
    show (brdTo (clB l) (2 ^ C)).length ≤ 32
    omega
  · exact Nat.zero_le _
/-- An example table is a table; what holds in it is what follows. -/
theorem arm_facts {C : Nat} {l : List (Int × Int)} (ha : arD (C : Int) l = true) :
    isT (C : Int) (armL (C : Int) l) = true ∧ (∀ x ∈ l, holdsD (C : Int) (armL (C : Int) l) 0 x.1 x.2 = true) ∧ ∀ L R : Nat, L < 2 ^ C → R < C → holdsD (C : Int) (armL (C : Int) l) 0 (L : Int) (R : Int) = bitB (clo l L) R := by
  obtain ⟨C', e, h1, h5, -, hd⟩ := arD_n ha
  obtain rfl : C = C' := by omega
  have h32 := two5 h5
  have hE : armL (C : Int) l = rowsA C (armP C (clsL (C : Int) l) (clsL (C : Int) l).length) := by unfold armL; rw [if_pos ha]; rfl
  have hlen := cls_len (C : Int) l
  obtain ⟨k1, k2⟩ := armP_asc C (clsL (C : Int) l) (clsL (C : Int) l).length
  have k3 := armP_len C (clsL (C : Int) l) (clsL (C : Int) l).length
  have kp : ∀ p ∈ armP C (clsL (C : Int) l) (clsL (C : Int) l).length, p.1 < 2 ^ C ∧ ClosedN l p.1 ∧ 0 ≤ p.2 := by
    intro p hp
    rcases (armP_mem _).1 hp with rfl | ⟨j, hj, hne, rfl⟩
    · have : 0 < 2 ^ C := Nat.pow_pos (by omega)
      exact ⟨by show 2 ^ C - 1 < 2 ^ C; omega, closed_full h5 hd, Int.le_refl _⟩
    · have hm : (clsL (C : Int) l).getD j 0 ∈ clsL (C : Int) l := by rw [List.getD_eq_getElem?_getD, List.getElem?_eq_getElem hj]; exact List.getElem_mem hj
      obtain ⟨x, hx, hc, he⟩ := (cls_mem ha _).1 hm
      rw [he]
      exact ⟨hx, hc, by omega⟩
  have hT : isT (C : Int) (armL (C : Int) l) = true := by
    rw [hE]
    unfold isT
    rw [Bool.and_eq_true, Bool.and_eq_true, decide_eq_true_iff, decide_eq_true_iff, List.all_eq_true]
    refine ⟨fun r hr => ?_, ⟨by omega, by omega⟩, by unfold rowsA; rw [List.length_map]; omega⟩
    unfold rowsA at hr
    obtain ⟨p, hp, rfl⟩ := List.mem_map.1 hr
    unfold rowOk
    rw [Bool.and_eq_true, List.all_eq_true, decide_eq_true_iff]
    refine ⟨fun x hx => ?_, by rw [rowA_len]⟩
    have h2 := k2 p hp
    have h0 := (kp p hp).2.2
    unfold cellOk
    rcases rowA_mem hx with rfl | rfl
    · simp
    · simp; omega
  have hF : ∀ L R : Nat, L < 2 ^ C → R < C → holdsD (C : Int) (armL (C : Int) l) 0 (L : Int) (R : Int) = bitB (clo l L) R := by
    intro L R hL hR
    have hok : okD (C : Int) (armL (C : Int) l) 0 (L : Int) (R : Int) = true := by
      unfold okD fineT
      rw [hT, depB_iff.2 ⟨⟨by omega, by omega⟩, isA_fit h5 hL, by omega, by omega⟩]
      rfl
    rw [Bool.eq_iff_iff, holds_iff hok rfl rfl rfl h5 hR, hE, rows_hold h5 k1 (fun p hp => (kp p hp).1) hL hR]
    obtain ⟨c1, c2, c3, c4, c5⟩ := clo_spec h5 hd (x := L) (by omega)
    constructor
    · intro h
      refine Classical.byContradiction fun hno => ?_
      have hm : ((clo l L : Nat) : Int) ∈ clsL (C : Int) l := (cls_mem ha _).2 ⟨_, c3 hL, c4, rfl⟩
      obtain ⟨j, hj, hg⟩ := List.getElem_of_mem hm
      have hg' : (clsL (C : Int) l).getD j 0 = ((clo l L : Nat) : Int) := by rw [List.getD_eq_getElem?_getD, List.getElem?_eq_getElem hj]; exact hg
      have hne : (clsL (C : Int) l).getD j 0 ≠ (2 : Int) ^ C - 1 := by
        rw [hg']
        intro e
        have hz : ((2 ^ C : Nat) : Int) = (2 : Int) ^ C := by rw [Int.natCast_pow]; rfl
        have hp : 0 < 2 ^ C := Nat.pow_pos (by omega)
        have e' : clo l L = 2 ^ C - 1 := by omega
        have hf := full_bit ⟨C, by omega⟩ ⟨R, by omega⟩
        simp only at hf
        rw [e', hf, decide_eq_true hR] at hno
        exact hno rfl
      exact hno (by
        have := h (((clsL (C : Int) l).getD j 0).toNat, (j : Int) + 1) ((armP_mem _).2 (.inr ⟨j, hj, hne, rfl⟩)) (by rw [hg']; exact c2)
        rw [hg'] at this
        exact this)
    · intro h p hp hs
      exact sub_bitN c1 (by have := (kp p hp).1; omega) (c5 _ (by have := (kp p hp).1; omega) hs (kp p hp).2.1) (by omega) h
  refine ⟨hT, fun x hx => ?_, hF⟩
  obtain ⟨L, R, rfl, hL, hR⟩ := hd x hx
  rw [hF L R hL hR]
  obtain ⟨c1, c2, c3, c4, c5⟩ := clo_spec h5 hd (x := L) (by omega)
  exact c4 _ hx c2
/-- The rows of a table in which the dependencies hold and another one does not. -/
def ctrL (n : Int) (l : List (Int × Int)) (d : Int × Int) : List (List Int) := if arD n l = true ∧ depB n d.1 d.2 = true ∧ impB n l d = false then rowsA n.toNat [(2 ^ n.toNat - 1, 0), (clo l d.1.toNat, 1)] else []
def ctrB (n : Int) (l : List (Int × Int)) (d : Int × Int) : Bool := decide (arD n l = true ∧ depB n d.1 d.2 = true ∧ impB n l d = false)
theorem isA_lt12 {C : Nat} {x : Int} (hC : C ≤ 5) (h : isA (C : Int) x = true) : ∃ X : Nat, x = (X : Int) ∧ X < 32 ∧ X < 2 ^ C := by
  unfold isA at h
  rw [decide_eq_true_iff, show ((C : Int)).toNat = C from rfl] at h
  have h32 := two5 hC
  have hz : ((2 ^ C : Nat) : Int) = (2 : Int) ^ C := by rw [Int.natCast_pow]; rfl
  exact ⟨x.toNat, by omega, by omega, by omega⟩
theorem ctr_facts {n : Int} {l : List (Int × Int)} {d : Int × Int} (h : ctrB n l d = true) :
    isT n (ctrL n l d) = true ∧ (∀ x ∈ l, holdsD n (ctrL n l d) 0 x.1 x.2 = true) ∧ holdsD n (ctrL n l d) 0 d.1 d.2 = false ∧ (ctrL n l d).length = 2 := by
  have hc := of_decide_eq_true h
  obtain ⟨ha, hb, hi⟩ := hc
  obtain ⟨C, rfl, h1, h5, -, hd⟩ := arD_n ha
  have h32 := two5 h5
  obtain ⟨⟨-, -⟩, hA, hr0, hr1⟩ := depB_iff.1 hb
  obtain ⟨L, hL', hL32, hL⟩ := isA_lt12 h5 hA
  obtain ⟨R, hR'⟩ : ∃ R : Nat, d.2 = (R : Int) := ⟨d.2.toNat, by omega⟩
  have hR : R < C := by omega
  have hE : ctrL (C : Int) l d = rowsA C [(2 ^ C - 1, 0), (clo l L, 1)] := by
    unfold ctrL
    rw [if_pos ⟨ha, hb, hi⟩, hL']
    rfl
  have hno : bitB (clo l L) R = false := by
    unfold impB at hi
    rw [ha, hb, hL', hR', Bool.true_and, Bool.true_and] at hi
    exact hi
  obtain ⟨c1, c2, c3, c4, c5⟩ := clo_spec h5 hd (x := L) hL32
  have kA : AscZ C [(2 ^ C - 1, 0), (clo l L, 1)] := ⟨Nat.zero_lt_two, rfl, fun a b hab hb => by
    simp only [List.length_cons, List.length_nil] at hb
    obtain rfl : a = 0 := by omega
    obtain rfl : b = 1 := by omega
    exact Int.zero_lt_one⟩
  have kp : ∀ p ∈ [((2 ^ C - 1 : Nat), (0 : Int)), (clo l L, 1)], p.1 < 2 ^ C ∧ ClosedN l p.1 ∧ (p.2 = 0 ∨ p.2 = 1) := by
    intro p hp
    rcases List.mem_cons.1 hp with rfl | hp
    · have : 0 < 2 ^ C := Nat.pow_pos (by omega)
      exact ⟨by show 2 ^ C - 1 < 2 ^ C; omega, closed_full h5 hd, .inl rfl⟩
    · rw [List.mem_singleton] at hp
      subst hp
      exact ⟨c3 hL, c4, .inr rfl⟩
  have hT : isT (C : Int) (ctrL (C : Int) l d) = true := by
    rw [hE]
    unfold isT
    rw [Bool.and_eq_true, Bool.and_eq_true, decide_eq_true_iff, decide_eq_true_iff, List.all_eq_true]
    refine ⟨fun r hr => ?_, ⟨by omega, by omega⟩, by unfold rowsA; rw [List.length_map]; simp⟩
    unfold rowsA at hr
    obtain ⟨p, hp, rfl⟩ := List.mem_map.1 hr
    unfold rowOk
    rw [Bool.and_eq_true, List.all_eq_true, decide_eq_true_iff]
    refine ⟨fun x hx => ?_, by rw [rowA_len]⟩
    have h2 := (kp p hp).2.2
    unfold cellOk
    rcases rowA_mem hx with rfl | rfl
    · simp
    · simp; omega
  have hF : ∀ L' R' : Nat, L' < 2 ^ C → R' < C → (holdsD (C : Int) (ctrL (C : Int) l d) 0 (L' : Int) (R' : Int) = true ↔ ∀ p ∈ [((2 ^ C - 1 : Nat), (0 : Int)), (clo l L, 1)], subN L' p.1 = true → bitB p.1 R' = true) := by
    intro L' R' hL' hR'
    have hok : okD (C : Int) (ctrL (C : Int) l d) 0 (L' : Int) (R' : Int) = true := by
      unfold okD fineT
      rw [hT, depB_iff.2 ⟨⟨by omega, by omega⟩, isA_fit h5 hL', by omega, by omega⟩]
      rfl
    rw [holds_iff hok rfl rfl rfl h5 hR', hE, rows_hold h5 kA (fun p hp => (kp p hp).1) hL' hR']
  refine ⟨hT, fun x hx => ?_, ?_, by rw [hE]; rfl⟩
  · have hx' := hx
    obtain ⟨L', R', rfl, hL2, hR2⟩ := hd x hx
    exact (hF L' R' hL2 hR2).2 fun p hp hs => (kp p hp).2.1 _ hx' hs
  · rw [hL', hR', Bool.eq_false_iff]
    intro hh
    have := (hF L R hL hR).1 hh (clo l L, 1) (by simp) c2
    rw [hno] at this
    cases this
end Go.Proofs.YtnbjcelfdppkcadGreat
namespace Go.Proofs.YtnbjcelfdppkcadGreat
open Go.RowKit

/-- A table in memory of the call's own, and a bool. -/
def RetTB (rc : Int) (d : List (List Int)) (ok : Bool) (w : World) (e : Ending) (w' : World) : Prop :=
  ∃ v, e = .returned (.tuple #[.agg #[.int .i64 rc, v], .bool ok]) ∧ OwnSS w' w.heap.size w'.heap.size v d ∧ Below w.heap.size w w'
def BxT (w : World) (b : Nat) (c : Int) (u : Value) : Prop := w.heap[b]? = some (.cells #[.int .i64 c, u] 29 (0, 0))
theorem BxT.c0 {w : World} {b : Nat} {c : Int} {u : Value} (h : BxT w b c u) : w.cell? ⟨b, 0, none⟩ = some (.int .i64 c) := by rw [cell_of_row w b 0 _ _ _ h]; rfl
theorem BxT.c1 {w : World} {b : Nat} {c : Int} {u : Value} (h : BxT w b c u) : w.cell? ⟨b, 1, none⟩ = some u := by rw [cell_of_row w b 1 _ _ _ h]; rfl
theorem BxT.f0 {w : World} {b : Nat} {c : Int} {u : Value} (h : BxT w b c u) : w.frozen? ⟨b, 0, none⟩ = false := frozen_of_row w b 0 _ _ h
theorem BxT.f1 {w : World} {b : Nat} {c : Int} {u : Value} (h : BxT w b c u) : w.frozen? ⟨b, 1, none⟩ = false := frozen_of_row w b 1 _ _ h
theorem BxT.lt {w : World} {b : Nat} {c : Int} {u : Value} (h : BxT w b c u) : b < w.heap.size := (Array.getElem?_eq_some_iff.1 h).1
theorem BxT.keep {w w' : World} {b : Nat} {c : Int} {u : Value} (h : BxT w b c u) (hb : Below w.heap.size w w') : BxT w' b c u := (hb.block b h.lt).trans h
theorem BxT.grown {w w' : World} {b : Nat} {c : Int} {u : Value} {row : Option Nat} (h : BxT w b c u) (hg : w.grownBy w' row) (hne : row ≠ some b) : BxT w' b c u := (hg.block b h.lt (Ne.symm hne)).trans h
theorem BxT.far {w : World} {b c k : Nat} {x : Int} {u v : Value} (h : BxT w b x u) (hc : b ≠ c) : BxT (w.setCell ⟨c, k, none⟩ v) b x u := (Below.heap_setCell w ⟨c, k, none⟩ v b hc).trans h
theorem BxT.set1 {w : World} {b : Nat} {c : Int} {u v : Value} (h : BxT w b c u) : BxT (w.setCell ⟨b, 1, none⟩ v) b c v := by
  unfold BxT at *
  simp only [World.setCell, Array.getElem?_modify]
  rw [if_pos trivial, h]
  rfl
theorem BxT.put {w : World} {b : Nat} {c c' : Int} {u v : Value} (h : BxT w b c u) : BxT ((w.setCell ⟨b, 0, none⟩ (.int .i64 c')).setCell ⟨b, 1, none⟩ v) b c' v := by
  have h1 : BxT (w.setCell ⟨b, 0, none⟩ (.int .i64 c')) b c' u := by
    unfold BxT at *
    simp only [World.setCell, Array.getElem?_modify]
    rw [if_pos trivial, h]
    rfl
  exact h1.set1
theorem bxt_new (w : World) (c : Int) (u : Value) : BxT (w.alloc (.cells #[.int .i64 c, u] 29)) w.heap.size c u := heap_alloc_new w _
theorem rowA_zero (X : Nat) : ∀ C, rowA X 0 C = List.replicate C 0
  | 0 => rfl
  | C + 1 => by
    unfold rowA
    rw [rowA_zero X C, List.replicate_succ']
    congr 1
    split <;> rfl
theorem make_zeros (C : Nat) (hC : C ≤ 1000) (w : World) : (Instr.makeSlice 40 (.int .i64 (C : Int)) (.int .i64 (C : Int))).run Tryz.prog w = .ok (.slice (some ⟨w.heap.size, 0, none⟩) C C) (w.alloc (.cells (madeCells (Value.cells (.int .i64 0)) (C * 1)) 3)) := by
  obtain ⟨i0, hi, hz0, hz1, hz2⟩ := info_parts info3j
  have h := run_make (P := Tryz.prog) w 40 3 i0 (.int .i64 0) Tryz.underlying40 hi hz0 .i64 .i64 (C : Int) (C : Int) (by omega) (Int.le_refl _) (by rw [hz2]; omega) (by omega)
  rw [hz1] at h
  simp only [Int.toNat_natCast] at h
  exact h
theorem own_zeros (w : World) (B C : Nat) (hB : B ≤ w.heap.size) (hC : C ≤ 1000) : OwnI (w.alloc (.cells (madeCells (Value.cells (.int .i64 0)) (C * 1)) 3)) B (.slice (some ⟨w.heap.size, 0, none⟩) C C) (List.replicate C 0) :=
  OwnI.full (World.ownsRow_lit w _ C hB (by unfold maxLen; omega) (size_madeCells _ _))
/-- Two rows of a table, each in a block of its own. -/
theorem own_two {w : World} {B C a : Nat} {u0 u1 : Value} {l0 l1 : List Int} (h0 : OwnI w B u0 l0) (h1 : OwnI w B u1 l1) (hne : ∀ g, u0.ownBlock = some g → u1.ownBlock ≠ some g) (hB : B ≤ w.heap.size)
    (hC : C = (w.alloc (.cells #[u0, u1] 40)).heap.size) (ha : a = w.heap.size) : OwnSS (w.alloc (.cells #[u0, u1] 40)) B C (.slice (some ⟨a, 0, none⟩) 2 2) [l0, l1] := by
  subst hC ha
  have k0 : OwnI (w.alloc (.cells #[u0, u1] 40)) B u0 l0 := World.ownsRow.alloc h0 _
  have k1 : OwnI (w.alloc (.cells #[u0, u1] 40)) B u1 l1 := World.ownsRow.alloc h1 _
  refine ⟨fun i => if i = 0 then u0 else u1, ?_, fun g hg => ?_, fun i hi => ?_, fun i j hij hj g hg => ?_⟩
  · exact World.ownsRow_lit w #[u0, u1] 2 hB (by unfold maxLen; omega) rfl
  · simp [Value.ownBlock] at hg
    rw [← hg]; simp
  · have hi2 : i < 2 := hi
    rcases (show i = 0 ∨ i = 1 by omega) with rfl | rfl
    · exact ⟨k0, fun g hg => (k0.lt g hg).2⟩
    · exact ⟨k1, fun g hg => (k1.lt g hg).2⟩
  · have hj2 : j < 2 := hj
    obtain rfl : i = 0 := by omega
    obtain rfl : j = 1 := by omega
    exact hne g hg
end Go.Proofs.YtnbjcelfdppkcadGreat
