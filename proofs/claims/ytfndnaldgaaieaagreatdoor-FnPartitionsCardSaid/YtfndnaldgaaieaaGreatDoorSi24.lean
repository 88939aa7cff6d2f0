/- Texts of this claim, merged: RecK, Grp, PhB, PrtA. Conditions: as stated. -/
import Derived.Test.YtfndnaldgaaieaaGreatDoorSi19
import Derived.Maps.RangeWalk
import Derived.Maps.AppendAt
import Derived.WideKeyEntry
import Derived.WideKeyPair
import Derived.Test.YtfndnaldgaaieaaGreatDoorParDm
import Derived.Sort.OwnSorted
namespace Go.Proofs.YtfndnaldgaaieaaGreatDoor
open Go.RowKit
open Go.Maps (Keyed)
open Go.WideMaps (ArrKey)
open Go.ChangeMaps (setBlock)

theorem arrR : ArrKey Tryz.prog 59 3 5 := ⟨Tryz.underlying59, by kernel_rfl, by kernel_rfl, by kernel_rfl⟩
theorem keyR : Keyed Tryz.prog 59 := Keyed.of_law arrR.law
theorem sizeT : ∃ m, Tryz.prog.types.size = m + 1 := ⟨Tryz.prog.types.size - 1, by kernel_rfl⟩
/-- The value of a record. -/
def recV (r : List Int) : Value := .agg #[.int .i64 (r.getD 0 0), .int .i64 (r.getD 1 0), .int .i64 (r.getD 2 0), .int .i64 (r.getD 3 0), .int .i64 (r.getD 4 0)]
/-- Five ints. -/
def R5 (r : List Int) : Prop := r.length = 5 ∧ ∀ j, j < 5 → (Lit.int .i64 (r.getD j 0)).wf = true
theorem r5_list {r : List Int} (h : R5 r) : r = [r.getD 0 0, r.getD 1 0, r.getD 2 0, r.getD 3 0, r.getD 4 0] := by
  obtain ⟨h, -⟩ := h
  match r, h with
  | [a, b, c, d, e], _ => rfl
theorem recV_inj {r s : List Int} (hr : R5 r) (hs : R5 s) (h : recV r = recV s) : r = s := by
  rw [r5_list hr, r5_list hs]
  unfold recV at h
  simp only [Value.agg.injEq, Array.mk.injEq, List.cons.injEq, Value.int.injEq, true_and, and_true] at h
  obtain ⟨h0, h1, h2, h3, h4⟩ := h
  rw [h0, h1, h2, h3, h4]
instance : Nonempty Lit := ⟨.bool false⟩
theorem keyOf_rec {r : List Int} (h : R5 r) : ∃ kl, keyOf Tryz.prog 59 (recV r) = some kl := by
  have hkt := arrR.keyType sizeT
  obtain ⟨m, hm⟩ := sizeT
  obtain ⟨-, hw⟩ := h
  have w0 := hw 0 (by omega)
  have w1 := hw 1 (by omega)
  have w2 := hw 2 (by omega)
  have w3 := hw 3 (by omega)
  have w4 := hw 4 (by omega)
  refine ⟨.string (keyBytes [.int .i64 (r.getD 0 0), .int .i64 (r.getD 1 0), .int .i64 (r.getD 2 0), .int .i64 (r.getD 3 0), .int .i64 (r.getD 4 0)]), ?_⟩
  · unfold keyOf recV
    generalize r.getD 0 0 = a0, r.getD 1 0 = a1, r.getD 2 0 = a2, r.getD 3 0 = a3, r.getD 4 0 = a4 at *
    simp only [arrR.hu]
    rw [if_pos (by simp [hkt, Value.formed, arrR.hu, arrR.size]), hm]
    unfold Program.keyLits
    simp only [arrR.hu, Value.cells]
    rw [if_pos (by rw [arrR.size]; rfl), show List.range 5 = [0, 1, 2, 3, 4] from rfl, List.mapM_cons, List.mapM_cons, List.mapM_cons, List.mapM_cons, List.mapM_cons, List.mapM_nil]
    simp [arrR.one, Program.keyLits, Tryz.underlying3, w0, w1, w2, w3, w4]
/-- What a record reads as. -/
noncomputable def klR (r : List Int) : Lit := Classical.epsilon fun kl => keyOf Tryz.prog 59 (recV r) = some kl
theorem keyOf_klR {r : List Int} (h : R5 r) : keyOf Tryz.prog 59 (recV r) = some (klR r) := by
  exact Classical.epsilon_spec (keyOf_rec h)
theorem klR_inj {r s : List Int} (hr : R5 r) (hs : R5 s) (h : klR r = klR s) : r = s := by
  have h1 := keyOf_klR hr
  rw [h] at h1
  exact recV_inj hr hs (keyR.inj h1 (keyOf_klR hs))
theorem klR_key {r : List Int} (h : R5 r) : WideAt.IsKeyLit (klR r) := keyR.key (keyOf_klR h)
theorem lit_one {m : Nat} {c : Value} {ls : List Lit} (h : Tryz.prog.keyLits (m + 1) 3 [c] = some ls) : ∃ a, c = .int .i64 a ∧ (Lit.int .i64 a).wf = true := by
  unfold Program.keyLits at h
  simp only [Tryz.underlying3] at h
  cases c <;> simp at h
  obtain ⟨⟨rfl, hw⟩, -⟩ := h
  exact ⟨_, rfl, hw⟩
set_option maxRecDepth 100000 in
theorem rec_inv {v : Value} {kl : Lit} (h : keyOf Tryz.prog 59 v = some kl) : ∃ r, R5 r ∧ v = recV r ∧ kl = klR r := by
  have h' := h
  obtain ⟨m, hm⟩ := sizeT
  unfold keyOf at h
  simp only [arrR.hu] at h
  split at h
  · next hf =>
    rw [Bool.and_eq_true] at hf
    have hfm := hf.2
    cases v with
    | agg cs =>
      simp only [Value.formed, arrR.hu, arrR.size, beq_iff_eq] at hfm
      obtain ⟨c0, c1, c2, c3, c4, rfl⟩ : ∃ c0 c1 c2 c3 c4, cs = #[c0, c1, c2, c3, c4] := by
        obtain ⟨l⟩ := cs
        match l, hfm with
        | [a, b, c, d, e], _ => exact ⟨a, b, c, d, e, rfl⟩
      rw [hm] at h
      unfold Program.keyLits at h
      simp only [arrR.hu, Value.cells] at h
      rw [if_pos (by rw [arrR.size]; rfl), show List.range 5 = [0, 1, 2, 3, 4] from rfl, List.mapM_cons, List.mapM_cons, List.mapM_cons, List.mapM_cons, List.mapM_cons, List.mapM_nil] at h
      simp only [arrR.one, Nat.mul_one, List.drop_zero, List.drop_succ_cons, List.take_succ_cons, List.take_zero, Option.map_eq_some_iff, bind, Option.bind_eq_some_iff, pure] at h
      obtain ⟨-, ⟨-, ⟨y0, h0, -, ⟨y1, h1, -, ⟨y2, h2, -, ⟨y3, h3, -, ⟨y4, h4, -⟩, -⟩, -⟩, -⟩, -⟩, -⟩, -⟩ := h
      obtain ⟨a0, rfl, v0⟩ := lit_one h0
      obtain ⟨a1, rfl, v1⟩ := lit_one h1
      obtain ⟨a2, rfl, v2⟩ := lit_one h2
      obtain ⟨a3, rfl, v3⟩ := lit_one h3
      obtain ⟨a4, rfl, v4⟩ := lit_one h4
      have hR : R5 [a0, a1, a2, a3, a4] := ⟨rfl, fun j hj => by
        rcases (show j = 0 ∨ j = 1 ∨ j = 2 ∨ j = 3 ∨ j = 4 by omega) with rfl | rfl | rfl | rfl | rfl
        · exact v0
        · exact v1
        · exact v2
        · exact v3
        · exact v4⟩
      have hk := keyOf_klR hR
      refine ⟨_, hR, rfl, ?_⟩
      rw [show recV [a0, a1, a2, a3, a4] = .agg #[.int .i64 a0, .int .i64 a1, .int .i64 a2, .int .i64 a3, .int .i64 a4] from rfl, h'] at hk
      exact Option.some.inj hk
    | _ => simp [Value.formed, arrR.hu] at hfm
  · cases h

/-- A value reads as itself. -/
def tokR (v : Value) : Option (DataW Value × List MemPlace) := some (.held v, [])
abbrev nilS : Value := .slice none 0 0
theorem zeroS (w : World) : (zeroValue 50).run Tryz.prog w = .ok nilS w := by kernel_rfl
/-- Block b is a map of at most n entries from records to slices that reads as D. -/
def MapR (w : World) (b n : Nat) (D : DataW Value) : Prop := w.ownsMap Tryz.prog 59 tokR b n D
section
variable (w : World) {ops : Array Oper} {rest : List Oper} {o : Oper} {a : Act} {Q : Exit → Act → World → Prop}
/-- What may be stored into the entry that was looked up, whatever has turned beside the map. -/
def Back (b n : Nat) (D : DataW Value) (kl : Lit) (st : Value) (w1 : World) : Prop :=
  ∀ (w2 : World) (u : Value), w2.heap[b]? = w1.heap[b]? → ∃ w3, (Instr.entryStore 54 (.map (some b)) st u).run Tryz.prog w2 = .ok () w3 ∧ MapR w3 b (n + 1) (D.put kl (.held u)) ∧ w2.grownBy w3 (some b)
theorem mapR_entry (hg : o.guard = none) (m x : Operand) (hop : o.op = Op.mapEntry 54 m x) (b n : Nat) (D : DataW Value) (hm : a.eval m = .map (some b)) (h : MapR w b n D) (hn : n < maxLen) (key : Value) (kl : Lit) (hx : a.eval x = key) (hkey : keyOf Tryz.prog 59 key = some kl)
    (hK : ∀ (v : Value) (st : Nat) (w1 : World), D.atKey kl (.held nilS) = .held v → Back b n D kl (.int .i64 (st : Int)) w1 → w.grownBy w1 (some b) → w1.heap.size = w.heap.size → wpList Tryz.prog ops Q rest (a.put o.dst (.tuple #[v, .int .i64 (st : Int)])) w1) : wpList Tryz.prog ops Q (o :: rest) a w := by
  refine wpList_plain hg fun K' hK' => ?_
  have h' := h
  obtain ⟨es, clock, hb, F, hs, rfl⟩ := h
  obtain ⟨v0, st, es1, clock1, hrun, hv, hback⟩ := Go.WideElems.entry_then_store arrR.law Tryz.underlying54 (fun u => zeroS u) hb F hkey
  have hat : (DataW.map ((es.toList.map (Go.WideElems.rg Tryz.prog 59 tokR)).foldr DataW.insert [])).atKey kl (.held nilS) = .held v0 := by
    rcases Maps.fit_look false keyR Tryz.underlying54 (zeroS w) hb F hkey with ⟨hr, hne, hat⟩ | ⟨e0, y, hm0, h3, hr, hR, hat, -⟩
    · rw [hat]
      rcases hv with ⟨e1, he1, hk1, rfl⟩ | ⟨-, rfl⟩
      · exact absurd hk1 (hne e1 he1)
      · rfl
    · rw [hat]
      rcases hv with ⟨e1, he1, hk1, rfl⟩ | ⟨hno, -⟩
      · have hp := ((MapKept.stamped_iff es clock).1 F.stamped).2.2
        obtain rfl := entry_eq_of_key hp hm0 he1 (h3.trans hk1.symm)
        cases hR; rfl
      · exact absurd h3 (hno e0 hm0)
  unfold Oper.wp
  simp [execOp, hop, hm, hx, hrun, Result.andThen]
  refine hK' _ _ (hK v0 st _ hat (fun w2 u hw2 => ?_) ⟨rfl, rfl, rfl, by simp [setBlock], fun i _ hi => ChangeMaps.heap_setBlock_other hb _ (fun e => hi (by rw [e]))⟩ (by simp [setBlock]))
  rw [ChangeMaps.heap_setBlock_same hb] at hw2
  obtain ⟨es', clock', hst, hup2⟩ := hback w2 u hw2
  obtain ⟨w9, hup, hown, -⟩ := h'.update keyR Tryz.underlying54 hn hkey (val := u) (d := .held u) (ps := []) rfl
  rw [hup2] at hup
  simp only [Result.ok.injEq, true_and] at hup
  obtain ⟨es2, clock2, h9, r⟩ := hown
  rw [← hup, ChangeMaps.heap_setBlock_same hb] at h9
  simp only [Option.some.injEq, Obj.map.injEq] at h9
  obtain ⟨rfl, rfl⟩ := h9
  exact ⟨_, hst, ⟨_, _, ChangeMaps.heap_setBlock_same hw2 _, r⟩, ⟨rfl, rfl, rfl, by simp [setBlock], fun i _ hi => ChangeMaps.heap_setBlock_other hw2 _ (fun e => hi (by rw [e]))⟩⟩
theorem mapR_store (hg : o.guard = none) (m s x : Operand) (hop : o.op = Op.entryStore 54 m s x) (b n : Nat) (D : DataW Value) (kl : Lit) (st u : Value) (w1 : World) (hB : Back b n D kl st w1) (hm : a.eval m = .map (some b)) (hs : a.eval s = st) (hx : a.eval x = u) (hw : w.heap[b]? = w1.heap[b]?)
    (hK : ∀ w3, MapR w3 b (n + 1) (D.put kl (.held u)) → w.grownBy w3 (some b) → wpList Tryz.prog ops Q rest (a.put o.dst undef) w3) : wpList Tryz.prog ops Q (o :: rest) a w := by
  refine wpList_plain hg fun K' hK' => ?_
  obtain ⟨w3, hrun, r1, r2⟩ := hB w u hw
  unfold Oper.wp
  simp [execOp, hop, hm, hs, hx, hrun, Result.andThen]
  exact hK' _ _ (hK w3 r1 r2)
end
end Go.Proofs.YtfndnaldgaaieaaGreatDoor
namespace Go.Proofs.YtfndnaldgaaieaaGreatDoor
open Go.RowKit
open Go.Maps (Keyed)

/-- Block b is a map in which each record has its rows, each in a slice of its own, from block B on, no two of them in one block. -/
def Grp (w : World) (B b n : Nat) (g : List Int → List Int) : Prop :=
  ∃ (D : DataW Value) (V : List Int → Value), MapR w b n D ∧ B ≤ b ∧
    (∀ r, R5 r → D.atKey (klR r) (.held nilS) = .held (V r) ∧ OwnI w B (V r) (g r)) ∧
    (∀ r, R5 r → Maps.has D (klR r) = !(g r).isEmpty) ∧
    (∀ r r', R5 r → R5 r' → r ≠ r' → ∀ k, (V r).ownBlock = some k → (V r').ownBlock ≠ some k)
theorem own_nilI (w : World) (B : Nat) : OwnI w B nilS [] := World.ownsRow_nil _ _ _ _
theorem Grp.made (w : World) : Grp (w.alloc (.map #[] 0)) w.heap.size w.heap.size 0 (fun _ => []) :=
  ⟨.map [], fun _ => nilS, World.ownsMap_made _ _ _ _, Nat.le_refl _, fun _ _ => ⟨rfl, own_nilI _ _⟩, fun _ _ => rfl, fun _ _ _ _ _ k hk => by cases hk⟩
theorem Grp.congr {w : World} {B b n : Nat} {g g' : List Int → List Int} (h : Grp w B b n g) (e : ∀ r, g r = g' r) : Grp w B b n g' := by
  have : g = g' := funext e
  exact this ▸ h
theorem Grp.mono {w : World} {B b n n' : Nat} {g : List Int → List Int} (h : Grp w B b n g) (hn : n ≤ n') : Grp w B b n' g := by
  obtain ⟨D, V, h1, r⟩ := h; exact ⟨D, V, World.ownsMap.mono h1 hn, r⟩
theorem Grp.lt {w : World} {B b n : Nat} {g : List Int → List Int} (h : Grp w B b n g) : b < w.heap.size := by
  obtain ⟨D, V, h1, r⟩ := h; exact World.ownsMap.lt h1
theorem Grp.kept {w w' : World} {B b n : Nat} {g : List Int → List Int} (h : Grp w B b n g) (hb : Below w.heap.size w w') : Grp w' B b n g := by
  obtain ⟨D, V, h1, h2, h3, h4, h5⟩ := h
  refine ⟨D, V, World.ownsMap.kept h1 (row := none) ⟨hb.os, hb.tape, hb.output, hb.size, fun i hi _ => hb.block i hi⟩ (by simp), h2, fun r hr => ⟨(h3 r hr).1, (h3 r hr).2.kept hb fun k hk => ((h3 r hr).2.lt k hk).2⟩, h4, h5⟩
/-- A row and a map are two blocks. -/
theorem map_apart {w : World} {b n B : Nat} {D : DataW Value} {v : Value} {l : List Int} (h : MapR w b n D) (h' : OwnI w B v l) : v.ownBlock ≠ some b := by
  intro hg
  obtain ⟨es, clock, hb, -⟩ := h
  rcases h'.2 with ⟨rfl, _⟩ | ⟨g, cap, cur, rfl, hB, hgg, rest⟩
  · cases hg
  · simp [Value.ownBlock] at hg
    subst hg
    rw [hb] at hgg
    cases hgg
set_option maxHeartbeats 1600000 in
theorem add_mid {w w2 : World} {b n : Nat} {D : DataW Value} {box : Obj} {x : Int} (h : MapR w b n D) (hgr : ((w.alloc box).alloc (.cells #[.int .i64 x] 3)).grownBy w2 (some b)) :
    (∀ j u, [Value.int .i64 x][j]? = some u → w2.cell? ((⟨w.heap.size + 1, 0, none⟩ : Addr).add j) = some u) ∧ (∀ B v l, OwnI w B v l → OwnI w2 B v l) ∧ (∀ B, B ≤ b → B ≤ w.heap.size → Below B w w2) ∧ w.heap.size + 2 ≤ w2.heap.size ∧ w2.heap[b]? ≠ none := by
  have hlt := World.ownsMap.lt h
  have hsz := hgr.size
  simp at hsz
  have hs1 : (w.alloc box).heap.size = w.heap.size + 1 := by simp
  refine ⟨fun j u hj => ?_, fun B v l ho => ?_, fun B hB hBw => ?_, by omega, ?_⟩
  · have hc := cell_one_new (w.alloc box) (.int .i64 x) 3 j u hj
    rw [hs1] at hc
    refine (World.cell?_of_block (a := (⟨w.heap.size + 1, 0, none⟩ : Addr).add j) ?_).trans hc
    rw [add_zero_off]
    exact hgr.block (w.heap.size + 1) (by simp) (by simp; omega)
  · refine OwnI.keptBy (OwnI.keptBy (OwnI.keptBy ho (World.grownBy_alloc _ box none) (by simp)) (World.grownBy_alloc _ _ none) (by simp)) hgr (fun k hk => ?_)
    cases hk
    exact map_apart h ho
  · exact (((Below.refl B w).alloc hBw box).alloc (by simp; omega) _).grown hgr (by simp; omega) (fun j hj => by cases hj; exact hB)
  · rw [Ne, Array.getElem?_eq_none_iff]; omega
theorem add_end {r : List Int} {x : Int} {B b n : Nat} {g : List Int → List Int} {w w2 w3 w4 : World} {D : DataW Value} {V : List Int → Value} {v v' : Value} (hr : R5 r) (h1 : MapR w b n D) (h2 : B ≤ b)
    (h3 : ∀ r, R5 r → D.atKey (klR r) (.held nilS) = .held (V r) ∧ OwnI w B (V r) (g r)) (h4 : ∀ r, R5 r → Maps.has D (klR r) = !(g r).isEmpty) (h5 : ∀ r r', R5 r → R5 r' → r ≠ r' → ∀ k, (V r).ownBlock = some k → (V r').ownBlock ≠ some k)
    (hv : v = V r) (hb2 : Below B w w2) (ho2 : ∀ B v l, OwnI w B v l → OwnI w2 B v l) (hs2 : w.heap.size + 2 ≤ w2.heap.size) (hown : w3.ownsRow B 3 1 v' ((g r).length + 1) (intsV (g r) ++ [.int .i64 x])) (hgr : w2.grownBy w3 v.ownBlock) (hat : v'.ownBlock = v.ownBlock ∨ v'.ownBlock = some w2.heap.size)
    (hM : MapR w4 b (n + 1) (D.put (klR r) (.held v'))) (hg4 : w3.grownBy w4 (some b)) : Grp w4 B b (n + 1) (fun s => if s = r then g s ++ [x] else g s) ∧ Below B w w4 := by
  have hlt := World.ownsMap.lt h1
  have hmD : Maps.IsMap D := World.ownsMap.isMap h1
  have hvb : v'.ownBlock ≠ some b := by
    rcases hat with h | h
    · rw [h, hv]; exact map_apart h1 (h3 r hr).2
    · rw [h]; simp; omega
  refine ⟨⟨_, fun s => if s = r then v' else V s, hM, h2, fun s hs => ?_, fun s hs => ?_, fun s t hs ht hst k hk => ?_⟩, ?_⟩
  · by_cases hsr : s = r
    · subst hsr
      have hkk := @klR_key s hs
      simp only [if_true]
      exact ⟨Go.Maps.atKey_put_same (k := klR s) hmD hkk _ _, OwnI.keptBy (OwnI.snoc hown) hg4 (fun k hk => by cases hk; exact hvb)⟩
    · simp only [hsr, if_false]
      obtain ⟨e1, e2⟩ := h3 s hs
      refine ⟨by rw [Go.Maps.atKey_put_other (fun e => hsr (klR_inj hs hr e))]; exact e1, OwnI.keptBy (OwnI.keptBy (ho2 _ _ _ e2) hgr (fun k hk => ?_)) hg4 (fun k hk => by cases hk; exact map_apart h1 e2)⟩
      rw [hv] at hk
      exact h5 r s hr hs (fun e => hsr e.symm) k hk
  · by_cases hsr : s = r
    · subst hsr
      have hkk := @klR_key s hs
      simp only [if_true]
      rw [Go.Maps.has_put_same (k := klR s) hmD hkk]; simp
    · simp only [hsr, if_false]
      rw [Go.Maps.has_put_other (fun e => hsr (klR_inj hs hr e))]; exact h4 s hs
  · have new : ∀ s, R5 s → s ≠ r → ∀ k, v'.ownBlock = some k → (V s).ownBlock ≠ some k := fun s hs hsr k hk e => by
      rcases hat with h | h
      · rw [h, hv] at hk; exact h5 r s hr hs (fun e => hsr e.symm) k hk e
      · rw [h] at hk; cases hk
        have := ((h3 s hs).2.lt _ e).2
        omega
    simp only at hk ⊢
    by_cases hsr : s = r
    · rw [if_pos hsr] at hk
      rw [if_neg (fun e => hst (hsr.trans e.symm))]
      exact new t ht (fun e => hst (hsr.trans e.symm)) k hk
    · rw [if_neg hsr] at hk
      by_cases htr : t = r
      · rw [if_pos htr]
        exact fun e => new s hs hsr k e hk
      · rw [if_neg htr]
        exact h5 s t hs ht hst k hk
  · have hsz := hgr.size
    refine (hb2.grown hgr (by omega) (fun k hk => ?_)).grown hg4 (by omega) (fun j hj => by cases hj; exact h2)
    rw [hv] at hk
    exact ((h3 r hr).2.lt k hk).1
set_option maxRecDepth 20000 in
set_option maxHeartbeats 1600000 in
theorem add_any (r : List Int) (x : Int) (B b n : Nat) (g : List Int → List Int) (w : World) (h : Grp w B b n g) (hr : R5 r) (hn : n < 1048576) (hl : (g r).length < 1048576) (hB : B ≤ w.heap.size) :
    Calls Tryz.prog 32 #[.map (some b), recV r, .int .i64 x] w fun e w' => e = .returned (.tuple #[]) ∧ Grp w' B b (n + 1) (fun s => if s = r then g s ++ [x] else g s) ∧ Below B w w' := by
  obtain ⟨D, V, h1, h2, h3, h4, h5⟩ := h
  obtain ⟨i0, hi, hz0, hz1, hz2⟩ := info_parts info3i
  have HK := keyOf_klR hr
  have H1 := Lib.hid h1
  have H3 := Lib.hid h3
  have H4 := Lib.hid h4
  have H5 := Lib.hid h5
  have HR := Lib.hid hr
  clear h1 h3 h4 h5 hr
  unfold recV at HK ⊢
  generalize r.getD 0 0 = a0, r.getD 1 0 = a1, r.getD 2 0 = a2, r.getD 3 0 = a3, r.getD 4 0 = a4 at HK ⊢
  replace HK := Lib.hid HK
  go_enter Tryz.func32, Tryz.ntmps32
  go_wp2_with (first
    | (refine mapR_entry _ rfl _ _ rfl b n D rfl (World.ownsMap.alloc (World.ownsMap.alloc H1.out _) _) (by unfold maxLen; omega) _ (klR r) rfl HK.out ?_
       intro v st w2 hat hback hgr hsz
       have HV : Hid (v = V r) := Lib.hid (by have e := (H3.out r HR.out).1.symm.trans hat; cases e; rfl)
       obtain ⟨hc, ho, hb, hs2, -⟩ := add_mid H1.out hgr
       have hov : OwnI w2 B v (g r) := by rw [HV.out]; exact ho _ _ _ (H3.out r HR.out).2
       have HO := Lib.hid ho
       have HB2 := Lib.hid (hb B h2 hB)
       have HC := Lib.hid hc
       have HOV := Lib.hid hov
       have HBK := Lib.hid hback
       have hbne : some b ≠ v.ownBlock := fun e => map_apart H1.out (H3.out r HR.out).2 (by rw [← HV.out]; exact e.symm)
       have HBN := Lib.hid hbne
       have hlt : b < w2.heap.size := by have := World.ownsMap.lt H1.out; omega
       clear hat hback hgr hsz hc ho hb hov hbne)
    | (at_builtin; refine wpList_append_own_at _ rfl _ _ 50 rfl B 3 i0 (.int .i64 0) 1 8 Tryz.underlying50 hi hz0 hz1 hz2 rfl (by decide) _ _ _ rfl HOV.out ⟨w.heap.size + 1, 0, none⟩ 1 1 [.int .i64 x] rfl rfl HC.out (by intro u hu; simp at hu; subst hu; rfl) (by unfold maxLen; omega) (by omega) (by omega) ?_
       intro v' w3 hown hgr3 hnil hat3
       have hbk : w3.heap[b]? = w2.heap[b]? := hgr3.block b hlt HBN.out
       have HBW := Lib.hid hbk
       have HW3 := Lib.hid hown
       have HG3 := Lib.hid hgr3
       have HA3 := Lib.hid hat3
       clear hbk hown hgr3 hnil hat3)
    | (refine mapR_store _ rfl _ _ _ rfl b n D (klR r) _ _ _ HBK.out rfl rfl rfl HBW.out ?_
       intro w4 hM4 hg4))
  go_end0
  exact ⟨rfl, add_end HR.out H1.out h2 H3.out H4.out H5.out HV.out HB2.out HO.out hs2 HW3.out HG3.out HA3.out hM4 hg4⟩
end Go.Proofs.YtfndnaldgaaieaaGreatDoor
namespace Go.Proofs.YtfndnaldgaaieaaGreatDoor
open Go.RowKit

theorem strike {left : Lit → Bool} {x x0 : List Int} (hx : R5 x) (h0 : R5 x0) : (left (klR x) && !(klR x).sameKey (klR x0)) = (left (klR x) && !decide (x = x0)) := by
  by_cases h : x = x0
  · subst h
    rw [WideAt.sameKey_self (klR_key hx), decide_eq_true rfl]
  · have : (klR x).sameKey (klR x0) = false := by
      cases hs : (klR x).sameKey (klR x0) with
      | false => rfl
      | true => exact absurd (klR_inj hx h0 (WideAt.sameKey_eq hs)) h
    rw [this, decide_eq_false h]
/-- The records that were collected, and those that are still to come. -/
def PhB {H : Type} (D : DataW H) (left : Lit → Bool) (rs : List (List Int)) : Prop :=
  rs.Nodup ∧ (∀ x ∈ rs, R5 x ∧ Maps.has D (klR x) = true) ∧ ∀ x, R5 x → left (klR x) = (Maps.has D (klR x) && !decide (x ∈ rs))
theorem PhB.start {H : Type} (D : DataW H) : PhB D (Maps.has D) [] := ⟨List.nodup_nil, (fun x hx => by cases hx), fun x _ => by simp⟩
theorem PhB.step {H : Type} {D : DataW H} {left : Lit → Bool} {rs : List (List Int)} (h : PhB D left rs) {x0 : List Int} (h0 : R5 x0) (hl : left (klR x0) = true) : PhB D (fun z => left z && !z.sameKey (klR x0)) (rs ++ [x0]) := by
  obtain ⟨h1, h2, h3⟩ := h
  have h4 := h3 x0 h0
  rw [hl] at h4
  have h4' := h4.symm
  rw [Bool.and_eq_true, Bool.not_eq_true', decide_eq_false_iff_not] at h4'
  refine ⟨?_, fun x hx => ?_, fun x hx => ?_⟩
  · rw [List.nodup_append]
    exact ⟨h1, by simp, fun a ha c hc e => by simp at hc; subst hc; subst e; exact h4'.2 ha⟩
  · rcases List.mem_append.1 hx with h | h
    · exact h2 x h
    · simp at h; subst h; exact ⟨h0, h4'.1⟩
  · show (left (klR x) && !(klR x).sameKey (klR x0)) = _
    rw [strike hx h0, h3 x hx]
    by_cases hxx : x = x0
    · subst hxx; simp
    · simp [hxx]
theorem PhB.stop {H : Type} {D : DataW H} {left : Lit → Bool} {rs : List (List Int)} (h : PhB D left rs) (hl : ∀ kl, left kl = false) : ∀ x, R5 x → (x ∈ rs ↔ Maps.has D (klR x) = true) := by
  intro x hx
  have h3 := h.2.2 x hx
  rw [hl] at h3
  constructor
  · intro hm; exact (h.2.1 x hm).2
  · intro hh
    rw [hh] at h3
    simpa using h3.symm
end Go.Proofs.YtfndnaldgaaieaaGreatDoor
namespace Go.Proofs.YtfndnaldgaaieaaGreatDoor
open Go.RowKit
open Go.Maps (Keyed)

/-- A slice reads as itself. -/
def tokS : Value → Option (DataW Value × List MemPlace)
  | .slice a n c => some (.held (.slice a n c), [])
  | _ => none
theorem tokS_inv {v : Value} {y : DataW Value × List MemPlace} (h : tokS v = some y) : ∃ a n c, v = .slice a n c ∧ y = (.held v, []) := by
  cases v <;> simp [tokS] at h
  subst h
  exact ⟨_, _, _, rfl, rfl⟩
def MapS (w : World) (b n : Nat) (D : DataW Value) : Prop := w.ownsMap Tryz.prog 59 tokS b n D
/-- A key is there, with one value, or not there. -/
theorem has_at {w : World} {b n : Nat} {D : DataW Value} {R : Value → Option (DataW Value × List MemPlace)} (h : w.ownsMap Tryz.prog 59 R b n D) {r : List Int} (hr : R5 r) : (Maps.has D (klR r) = false) ∨ ∃ y, ∀ zd, D.atKey (klR r) zd = y := by
  obtain ⟨es, clock, hb, F, hs, rfl⟩ := h
  rcases Maps.fit_look false keyR Tryz.underlying54 (zeroS w) hb F (keyOf_klR hr) with ⟨-, -, hat⟩ | ⟨e0, y, -, -, -, -, hat, -⟩
  · exact .inl (Maps.has_false_of_atKey hat)
  · exact .inr ⟨_, hat⟩
theorem toS {w : World} {b n : Nat} {D : DataW Value} (h : MapR w b n D) (hsl : ∀ r, R5 r → ∀ v, (∀ zd, D.atKey (klR r) zd = .held v) → ∃ a m c, v = .slice a m c) : MapS w b n D := by
  obtain ⟨es, clock, hb, F, hs, rfl⟩ := h
  refine (World.ownsMap_of_fit (R := tokS) hb F (fun x hx z hz => ?_)).mono hs
  cases hz
  obtain ⟨y, hy⟩ := F.reads x hx
  have hk := Go.WideElems.rd_key hy
  obtain ⟨r, hr, hxk, hkl⟩ := rec_inv hk
  rcases Maps.fit_look false keyR Tryz.underlying54 (zeroS w) hb F (keyOf_klR hr) with ⟨-, hne, -⟩ | ⟨e0, z, hm0, h3, -, hR, hat, -⟩
  · exact absurd hxk (hne x hx)
  · obtain rfl := entry_eq_of_key ((MapKept.stamped_iff es clock).1 F.stamped).2.2 hm0 hx (h3.trans hxk.symm)
    cases hR
    obtain ⟨a, m, c, e⟩ := hsl r hr _ hat
    rw [e]; rfl
/-- What is in the map while the short groups are dropped: the long ones, and those that are still to come. -/
def PhA (D D' : DataW Value) (V : List Int → Value) (g : List Int → List Int) (left : Lit → Bool) : Prop :=
  Maps.IsMap D' ∧ ∀ x, R5 x → Maps.has D' (klR x) = (Maps.has D (klR x) && (left (klR x) || decide (2 ≤ (g x).length))) ∧ (Maps.has D' (klR x) = true → ∀ zd, D'.atKey (klR x) zd = .held (V x))
theorem PhA.start {w : World} {b n : Nat} {D : DataW Value} {V : List Int → Value} {g : List Int → List Int} (h : MapR w b n D) (h3 : ∀ r, R5 r → D.atKey (klR r) (.held nilS) = .held (V r)) : PhA D D V g (Maps.has D) := by
  refine ⟨World.ownsMap.isMap h, fun x hx => ⟨by cases Maps.has D (klR x) <;> simp, fun hh zd => ?_⟩⟩
  rcases has_at h hx with he | ⟨y, hy⟩
  · rw [he] at hh; cases hh
  · rw [hy zd, ← hy (.held nilS)]; exact h3 x hx
theorem PhA.drop {D D' : DataW Value} {V : List Int → Value} {g : List Int → List Int} {left : Lit → Bool} (h : PhA D D' V g left) {x0 : List Int} (h0 : R5 x0) (hs : (g x0).length < 2) : PhA D (D'.del (klR x0)) V g (fun z => left z && !z.sameKey (klR x0)) := by
  refine ⟨h.1.del _, fun x hx => ?_⟩
  obtain ⟨e1, e2⟩ := h.2 x hx
  show Maps.has (D'.del (klR x0)) (klR x) = (Maps.has D (klR x) && ((left (klR x) && !(klR x).sameKey (klR x0)) || _)) ∧ _
  rw [strike hx h0]
  by_cases hxx : x = x0
  · subst hxx
    rw [Go.Maps.has_del_same]
    refine ⟨by simp; omega, fun hh => by cases hh⟩
  · have hne : klR x ≠ klR x0 := fun e => hxx (klR_inj hx h0 e)
    rw [Go.Maps.has_del_other hne]
    refine ⟨by rw [e1]; simp [hxx], fun hh zd => by rw [Go.Maps.atKey_del_other hne]; exact e2 hh zd⟩
theorem PhA.keep {D D' : DataW Value} {V : List Int → Value} {g : List Int → List Int} {left : Lit → Bool} (h : PhA D D' V g left) {x0 : List Int} (h0 : R5 x0) (hs : 2 ≤ (g x0).length) : PhA D D' V g (fun z => left z && !z.sameKey (klR x0)) := by
  refine ⟨h.1, fun x hx => ?_⟩
  obtain ⟨e1, e2⟩ := h.2 x hx
  refine ⟨?_, e2⟩
  show _ = (Maps.has D (klR x) && ((left (klR x) && !(klR x).sameKey (klR x0)) || _))
  rw [strike hx h0, e1]
  by_cases hxx : x = x0
  · subst hxx; simp [hs]
  · simp [hxx]
theorem PhA.stop {D D' : DataW Value} {V : List Int → Value} {g : List Int → List Int} {left : Lit → Bool} (h : PhA D D' V g left) (hl : ∀ kl, left kl = false) (h4 : ∀ r, R5 r → Maps.has D (klR r) = !(g r).isEmpty) :
    ∀ x, R5 x → Maps.has D' (klR x) = decide (2 ≤ (g x).length) ∧ (Maps.has D' (klR x) = true → ∀ zd, D'.atKey (klR x) zd = .held (V x)) := by
  intro x hx
  obtain ⟨e1, e2⟩ := h.2 x hx
  refine ⟨?_, e2⟩
  rw [e1, hl, h4 x hx]
  cases hg : g x with
  | nil => simp
  | cons a t => simp
section
variable (w : World) {ops : Array Oper} {rest : List Oper} {o : Oper} {a : Act} {Q : Exit → Act → World → Prop}
theorem mapS_next (hg : o.guard = none) (it : Operand) (hop : o.op = Op.next it false) (b r n : Nat) (D : DataW Value) (left : Lit → Bool) (cnt : Nat) (hit : a.eval it = .pointer (some ⟨r, 0, none⟩)) (h : w.ranges Tryz.prog 59 tokS b r n D left cnt)
    (hDone : cnt = 0 → (∀ kl, left kl = false) → wpList Tryz.prog ops Q rest (a.put o.dst (.tuple #[.bool false])) w)
    (hMore : ∀ (a0 a1 a2 a3 a4 : Int) (ad : Option Addr) (m c : Nat) (w' : World) (cnt' : Nat), R5 [a0, a1, a2, a3, a4] → left (klR [a0, a1, a2, a3, a4]) = true → (∀ zd, D.atKey (klR [a0, a1, a2, a3, a4]) zd = .held (.slice ad m c)) →
      w'.ranges Tryz.prog 59 tokS b r n D (fun z => left z && !z.sameKey (klR [a0, a1, a2, a3, a4])) cnt' → cnt' < cnt → w.grownBy w' (some r) → w'.heap.size = w.heap.size →
      (Instr.entry (.pointer (some ⟨r, 0, none⟩))).run Tryz.prog w' = .ok (.tuple #[.agg #[.int .i64 a0, .int .i64 a1, .int .i64 a2, .int .i64 a3, .int .i64 a4], .slice ad m c]) w' →
      wpList Tryz.prog ops Q rest (a.put o.dst (.tuple #[.bool true, .agg #[.int .i64 a0, .int .i64 a1, .int .i64 a2, .int .i64 a3, .int .i64 a4], .slice ad m c])) w') : wpList Tryz.prog ops Q (o :: rest) a w := by
  refine wpList_next_ranges w hg it hop 59 keyR tokS (fun r : {r : List Int // R5 r} => recV r.1) (fun t : Option Addr × Nat × Nat => .slice t.1 t.2.1 t.2.2) (fun key kl hk => ?_) (fun v y hv => ?_) b r n D left cnt hit h hDone (fun x c kl y w' cnt' hkey hlk hv hat hrg hlt hgr hsz hen => ?_)
  · obtain ⟨r, hr, e, -⟩ := rec_inv hk
    exact ⟨⟨r, hr⟩, e⟩
  · obtain ⟨a, m, c, e, -⟩ := tokS_inv hv
    exact ⟨(a, m, c), e⟩
  · obtain ⟨x, hx⟩ := x
    obtain ⟨ad, m, c⟩ := c
    have hkk := keyOf_klR hx
    rw [hkey] at hkk
    cases hkk
    cases hv
    have hx5 := r5_list hx
    obtain ⟨a0, a1, a2, a3, a4, rfl⟩ : ∃ a0 a1 a2 a3 a4, x = [a0, a1, a2, a3, a4] := ⟨_, _, _, _, _, hx5⟩
    exact hMore a0 a1 a2 a3 a4 ad m c w' cnt' hx hlk hat hrg hlt hgr hsz hen
end
end Go.Proofs.YtfndnaldgaaieaaGreatDoor
