/- A map from records to rows, in groups; add, by contract. Conditions: as stated. -/
import Derived.Test.YtkaalgbcdcbgoaaRecK
import Derived.Test.YtkaalgbcdcbgoaaParD
namespace Go.Proofs.Ytkaalgbcdcbgoaa
open Go.RowKit
open Go.Maps (Keyed)

/-- Block b is a map in which each record has its rows, each in a slice of its own, from block B on, no two of them in one block. -/
def Grp (w : World) (B b n : Nat) (g : List Int → List Int) : Prop :=
  ∃ (D : DataW Value) (V : List Int → Value), MapR w b n D ∧ B ≤ b ∧
    (∀ r, R5 r → D.atKey (klR r) (.held nilS) = .held (V r) ∧ OwnI w B (V r) (g r)) ∧
    (∀ r, R5 r → Maps.has D (klR r) = !(g r).isEmpty) ∧
    (∀ r r', R5 r → R5 r' → r ≠ r' → ∀ k, (V r).ownBlock = some k → (V r').ownBlock ≠ some k)
theorem own_nilI (w : World) (B : Nat) : OwnI w B nilS [] := World.ownsRow_nil _ _ _ _
theorem Grp.made (w : World) : Grp (w.alloc (.map #[] 0)) w.heap.size w.heap.size 0 (fun _ => []) :=
  ⟨.map [], fun _ => nilS, World.ownsMap_made _ _ _ _, Nat.le_refl _, fun _ _ => ⟨rfl, own_nilI _ _⟩, fun _ _ => rfl, fun _ _ _ _ _ k hk => by cases hk⟩
theorem Grp.congr {w : World} {B b n : Nat} {g g' : List Int → List Int} (h : Grp w B b n g) (e : ∀ r, g r = g' r) : Grp w B b n g' := by
  have : g = g' := funext e
  exact this ▸ h
theorem Grp.mono {w : World} {B b n n' : Nat} {g : List Int → List Int} (h : Grp w B b n g) (hn : n ≤ n') : Grp w B b n' g := by
  obtain ⟨D, V, h1, r⟩ := h; exact ⟨D, V, World.ownsMap.mono h1 hn, r⟩
theorem Grp.lt {w : World} {B b n : Nat} {g : List Int → List Int} (h : Grp w B b n g) : b < w.heap.size := by
  obtain ⟨D, V, h1, r⟩ := h; exact World.ownsMap.lt h1
theorem Grp.kept {w w' : World} {B b n : Nat} {g : List Int → List Int} (h : Grp w B b n g) (hb : Below w.heap.size w w') : Grp w' B b n g := by
  obtain ⟨D, V, h1, h2, h3, h4, h5⟩ := h
  refine ⟨D, V, World.ownsMap.kept h1 (row := none) ⟨hb.os, hb.tape, hb.output, hb.size, fun i hi _ => hb.block i hi⟩ (by simp), h2, fun r hr => ⟨(h3 r hr).1, (h3 r hr).2.kept hb fun k hk => ((h3 r hr).2.lt k hk).2⟩, h4, h5⟩
/-- A row and a map are two blocks. -/
theorem map_apart {w : World} {b n B : Nat} {D : DataW Value} {v : Value} {l : List Int} (h : MapR w b n D) (h' : OwnI w B v l) : v.ownBlock ≠ some b := by
  intro hg
  obtain ⟨es, clock, hb, -⟩ := h
  rcases h'.2 with ⟨rfl, _⟩ | ⟨g, cap, cur, rfl, hB, hgg, rest⟩
  · cases hg
  · simp [Value.ownBlock] at hg
    subst hg
    rw [hb] at hgg
    cases hgg
set_option maxHeartbeats 1600000 in
theorem add_mid {w w2 : World} {b n : Nat} {D : DataW Value} {box : Obj} {x : Int} (h : MapR w b n D) (hgr : ((w.alloc box).alloc (.cells #[.int .i64 x] 3)).grownBy w2 (some b)) :
    (∀ j u, [Value.int .i64 x][j]? = some u → w2.cell? ((⟨w.heap.size + 1, 0, none⟩ : Addr).add j) = some u) ∧ (∀ B v l, OwnI w B v l → OwnI w2 B v l) ∧ (∀ B, B ≤ b → B ≤ w.heap.size → Below B w w2) ∧ w.heap.size + 2 ≤ w2.heap.size ∧ w2.heap[b]? ≠ none := by
  have hlt := World.ownsMap.lt h
  have hsz := hgr.size
  simp at hsz
  have hs1 : (w.alloc box).heap.size = w.heap.size + 1 := by simp
  refine ⟨fun j u hj => ?_, fun B v l ho => ?_, fun B hB hBw => ?_, by omega, ?_⟩
  · have hc := cell_one_new (w.alloc box) (.int .i64 x) 3 j u hj
    rw [hs1] at hc
    refine (World.cell?_of_block (a := (⟨w.heap.size + 1, 0, none⟩ : Addr).add j) ?_).trans hc
    rw [add_zero_off]
    exact hgr.block (w.heap.size + 1) (by simp) (by simp; omega)
  · refine OwnI.keptBy (OwnI.keptBy (OwnI.keptBy ho (World.grownBy_alloc _ box none) (by simp)) (World.grownBy_alloc _ _ none) (by simp)) hgr (fun k hk => ?_)
    cases hk
    exact map_apart h ho
  · exact (((Below.refl B w).alloc hBw box).alloc (by simp; omega) _).grown hgr (by simp; omega) (fun j hj => by cases hj; exact hB)
  · rw [Ne, Array.getElem?_eq_none_iff]; omega
theorem add_end {r : List Int} {x : Int} {B b n : Nat} {g : List Int → List Int} {w w2 w3 w4 : World} {D : DataW Value} {V : List Int → Value} {v v' : Value} (hr : R5 r) (h1 : MapR w b n D) (h2 : B ≤ b)
    (h3 : ∀ r, R5 r → D.atKey (klR r) (.held nilS) = .held (V r) ∧ OwnI w B (V r) (g r)) (h4 : ∀ r, R5 r → Maps.has D (klR r) = !(g r).isEmpty) (h5 : ∀ r r', R5 r → R5 r' → r ≠ r' → ∀ k, (V r).ownBlock = some k → (V r').ownBlock ≠ some k)
    (hv : v = V r) (hb2 : Below B w w2) (ho2 : ∀ B v l, OwnI w B v l → OwnI w2 B v l) (hs2 : w.heap.size + 2 ≤ w2.heap.size) (hown : w3.ownsRow B 3 1 v' ((g r).length + 1) (intsV (g r) ++ [.int .i64 x])) (hgr : w2.grownBy w3 v.ownBlock) (hat : v'.ownBlock = v.ownBlock ∨ v'.ownBlock = some w2.heap.size)
    (hM : MapR w4 b (n + 1) (D.put (klR r) (.held v'))) (hg4 : w3.grownBy w4 (some b)) : Grp w4 B b (n + 1) (fun s => if s = r then g s ++ [x] else g s) ∧ Below B w w4 := by
  have hlt := World.ownsMap.lt h1
  have hmD : Maps.IsMap D := World.ownsMap.isMap h1
  have hvb : v'.ownBlock ≠ some b := by
    rcases hat with h | h
    · rw [h, hv]; exact map_apart h1 (h3 r hr).2
    · rw [h]; simp; omega
  refine ⟨⟨_, fun s => if s = r then v' else V s, hM, h2, fun s hs => ?_, fun s hs => ?_, fun s t hs ht hst k hk => ?_⟩, ?_⟩
  · by_cases hsr : s = r
    · subst hsr
      have hkk := @klR_key s hs
      simp only [if_true]
      exact ⟨Go.Maps.atKey_put_same (k := klR s) hmD hkk _ _, OwnI.keptBy (OwnI.snoc hown) hg4 (fun k hk => by cases hk; exact hvb)⟩
    · simp only [hsr, if_false]
      obtain ⟨e1, e2⟩ := h3 s hs
      refine ⟨by rw [Go.Maps.atKey_put_other (fun e => hsr (klR_inj hs hr e))]; exact e1, OwnI.keptBy (OwnI.keptBy (ho2 _ _ _ e2) hgr (fun k hk => ?_)) hg4 (fun k hk => by cases hk; exact map_apart h1 e2)⟩
      rw [hv] at hk
      exact h5 r s hr hs (fun e => hsr e.symm) k hk
  · by_cases hsr : s = r
    · subst hsr
      have hkk := @klR_key s hs
      simp only [if_true]
      rw [Go.Maps.has_put_same (k := klR s) hmD hkk]; simp
    · simp only [hsr, if_false]
      rw [Go.Maps.has_put_other (fun e => hsr (klR_inj hs hr e))]; exact h4 s hs
  · have new : ∀ s, R5 s → s ≠ r → ∀ k, v'.ownBlock = some k → (V s).ownBlock ≠ some k := fun s hs hsr k hk e => by
      rcases hat with h | h
      · rw [h, hv] at hk; exact h5 r s hr hs (fun e => hsr e.symm) k hk e
      · rw [h] at hk; cases hk
        have := ((h3 s hs).2.lt _ e).2
        omega
    simp only at hk ⊢
    by_cases hsr : s = r
    · rw [if_pos hsr] at hk
      rw [if_neg (fun e => hst (hsr.trans e.symm))]
      exact new t ht (fun e => hst (hsr.trans e.symm)) k hk
    · rw [if_neg hsr] at hk
      by_cases htr : t = r
      · rw [if_pos htr]
        exact fun e => new s hs hsr k e hk
      · rw [if_neg htr]
        exact h5 s t hs ht hst k hk
  · have hsz := hgr.size
    refine (hb2.grown hgr (by omega) (fun k hk => ?_)).grown hg4 (by omega) (fun j hj => by cases hj; exact h2)
    rw [hv] at hk
    exact ((h3 r hr).2.lt k hk).1
set_option maxRecDepth 20000 in
set_option maxHeartbeats 1600000 in
theorem add_any (r : List Int) (x : Int) (B b n : Nat) (g : List Int → List Int) (w : World) (h : Grp w B b n g) (hr : R5 r) (hn : n < 1048576) (hl : (g r).length < 1048576) (hB : B ≤ w.heap.size) :
    Calls Try.prog 36 #[.map (some b), recV r, .int .i64 x] w fun e w' => e = .returned (.tuple #[]) ∧ Grp w' B b (n + 1) (fun s => if s = r then g s ++ [x] else g s) ∧ Below B w w' := by
  obtain ⟨D, V, h1, h2, h3, h4, h5⟩ := h
  obtain ⟨i0, hi, hz0, hz1, hz2⟩ := info_parts info3i
  have HK := keyOf_klR hr
  have H1 := Lib.hid h1
  have H3 := Lib.hid h3
  have H4 := Lib.hid h4
  have H5 := Lib.hid h5
  have HR := Lib.hid hr
  clear h1 h3 h4 h5 hr
  unfold recV at HK ⊢
  generalize r.getD 0 0 = a0, r.getD 1 0 = a1, r.getD 2 0 = a2, r.getD 3 0 = a3, r.getD 4 0 = a4 at HK ⊢
  replace HK := Lib.hid HK
  go_enter Try.func36, Try.ntmps36
  go_wp2_with (first
    | (refine mapR_entry _ rfl _ _ rfl b n D rfl (World.ownsMap.alloc (World.ownsMap.alloc H1.out _) _) (by unfold maxLen; omega) _ (klR r) rfl HK.out ?_
       intro v st w2 hat hback hgr hsz
       have HV : Hid (v = V r) := Lib.hid (by have e := (H3.out r HR.out).1.symm.trans hat; cases e; rfl)
       obtain ⟨hc, ho, hb, hs2, -⟩ := add_mid H1.out hgr
       have hov : OwnI w2 B v (g r) := by rw [HV.out]; exact ho _ _ _ (H3.out r HR.out).2
       have HO := Lib.hid ho
       have HB2 := Lib.hid (hb B h2 hB)
       have HC := Lib.hid hc
       have HOV := Lib.hid hov
       have HBK := Lib.hid hback
       have hbne : some b ≠ v.ownBlock := fun e => map_apart H1.out (H3.out r HR.out).2 (by rw [← HV.out]; exact e.symm)
       have HBN := Lib.hid hbne
       have hlt : b < w2.heap.size := by have := World.ownsMap.lt H1.out; omega
       clear hat hback hgr hsz hc ho hb hov hbne)
    | (at_builtin; refine wpList_append_own_at _ rfl _ _ 46 rfl B 3 i0 (.int .i64 0) 1 8 Try.underlying46 hi hz0 hz1 hz2 rfl (by decide) _ _ _ rfl HOV.out ⟨w.heap.size + 1, 0, none⟩ 1 1 [.int .i64 x] rfl rfl HC.out (by intro u hu; simp at hu; subst hu; rfl) (by unfold maxLen; omega) (by omega) (by omega) ?_
       intro v' w3 hown hgr3 hnil hat3
       have hbk : w3.heap[b]? = w2.heap[b]? := hgr3.block b hlt HBN.out
       have HBW := Lib.hid hbk
       have HW3 := Lib.hid hown
       have HG3 := Lib.hid hgr3
       have HA3 := Lib.hid hat3
       clear hbk hown hgr3 hnil hat3)
    | (refine mapR_store _ rfl _ _ _ rfl b n D (klR r) _ _ _ HBK.out rfl rfl rfl HBW.out ?_
       intro w4 hM4 hg4))
  go_end0
  exact ⟨rfl, add_end HR.out H1.out h2 H3.out H4.out H5.out HV.out HB2.out HO.out hs2 HW3.out HG3.out HA3.out hM4 hg4⟩
end Go.Proofs.Ytkaalgbcdcbgoaa
