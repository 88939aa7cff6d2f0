/- Texts of this claim, merged: CvD, Grp, PrtA, SrtV, PrtS. Conditions: as stated. -/
import Derived.Test.YtnbjcelfdppkcaaGreatTc31
import Derived.Test.YtnbjcelfdppkcaaGreatTc13
import Derived.Test.YtnbjcelfdppkcaaGreatTc12
import Derived.Test.YtnbjcelfdppkcaaGreatTc27
import Derived.Test.YtnbjcelfdppkcaaGreatTc16
import Derived.Test.YtnbjcelfdppkcaaGreatTc30
import Derived.Sort.OwnSorted
import Derived.Test.YtnbjcelfdppkcaaGreatTc28
import Derived.Test.YtnbjcelfdppkcaaGreatSrtL
namespace Go.Proofs.YtnbjcelfdppkcaaGreat
open Go.RowKit

theorem mems_bits : ∀ L : Fin 32, ∀ y ∈ mems ((L.val : Nat) : Int), 0 ≤ y ∧ y < 5 ∧ bitB L.val y.toNat = true := by decide +kernel
theorem bits_mems : ∀ (L : Fin 32) (j : Fin 5), bitB L.val j.val = true → ((j.val : Nat) : Int) ∈ mems ((L.val : Nat) : Int) := by decide +kernel
theorem minN_mems {C : Nat} (hC : C ≤ 5) (ll : List (List Int)) (m : Int) {L R : Nat} (hL : L < 2 ^ C) : minN C ll m L R = (!bitB L R && h7 C ll m L R && (mems (L : Int)).all (fun y => !h7 C ll m (L - 2 ^ y.toNat) R)) := by
  have h32 := two5 hC
  have h : (List.range C).all (fun i => !(bitB L i && h7 C ll m (L - 2 ^ i) R)) = (mems (L : Int)).all (fun y => !h7 C ll m (L - 2 ^ y.toNat) R) := by
    rw [Bool.eq_iff_iff, List.all_eq_true, List.all_eq_true]
    constructor
    · intro h y hy
      obtain ⟨y0, y5, yb⟩ := mems_bits ⟨L, by omega⟩ y hy
      have hyC := bit_lt ⟨C, by omega⟩ ⟨L, by omega⟩ ⟨y.toNat, by omega⟩ hL yb
      have := h y.toNat (List.mem_range.2 hyC)
      simp only at yb
      rw [yb, Bool.true_and] at this
      exact this
    · intro h i hi
      have hiC := List.mem_range.1 hi
      cases hb : bitB L i with
      | false => rfl
      | true =>
        have := h (i : Int) (bits_mems ⟨L, by omega⟩ ⟨i, by omega⟩ hb)
        rw [Bool.true_and]
        exact this
  unfold minN
  rw [h]
theorem wf_small (X : Nat) (h : X < 32) : (Lit.int .i64 (X : Int)).wf = true := by
  have k1 : ∀ X : Fin 32, (Lit.int .i64 ((X.val : Nat) : Int)).wf = true := by decide +kernel
  exact k1 ⟨X, h⟩
section
set_option maxRecDepth 20000
set_option maxHeartbeats 3200000
end
theorem parts_lenS (n : Int) : (parts n).length ≤ 1048576 := by
  by_cases hn : 0 ≤ n ∧ n ≤ 5
  · obtain ⟨C, rfl⟩ : ∃ C : Nat, n = (C : Int) := ⟨n.toNat, by omega⟩
    have := parts_len32 (C := C) (by omega)
    omega
  · unfold parts; rw [if_neg hn]; simp
theorem filt_I64 (n : Int) (p : Int → Bool) : I64s ((parts n).filter p) := by
  intro x hx
  obtain ⟨X, rfl, hX⟩ := parts_small n x (List.mem_filter.1 hx).1
  omega
section
set_option maxRecDepth 20000
set_option maxHeartbeats 1600000
end
section
set_option maxRecDepth 20000
set_option maxHeartbeats 3200000
end
end Go.Proofs.YtnbjcelfdppkcaaGreat
namespace Go.Proofs.YtnbjcelfdppkcaaGreat
open Go.RowKit
open Go.Maps (Keyed)

/-- Block b is a map in which each record has its rows, each in a slice of its own, from block B on, no two of them in one block. -/
def Grp (w : World) (B b n : Nat) (g : List Int → List Int) : Prop :=
  ∃ (D : DataW Value) (V : List Int → Value), MapR w b n D ∧ B ≤ b ∧
    (∀ r, R5 r → D.atKey (klR r) (.held nilS) = .held (V r) ∧ OwnI w B (V r) (g r)) ∧
    (∀ r, R5 r → Maps.has D (klR r) = !(g r).isEmpty) ∧
    (∀ r r', R5 r → R5 r' → r ≠ r' → ∀ k, (V r).ownBlock = some k → (V r').ownBlock ≠ some k)
theorem own_nilI (w : World) (B : Nat) : OwnI w B nilS [] := World.ownsRow_nil _ _ _ _
theorem Grp.made (w : World) : Grp (w.alloc (.map #[] 0)) w.heap.size w.heap.size 0 (fun _ => []) :=
  ⟨.map [], fun _ => nilS, World.ownsMap_made _ _ _ _, Nat.le_refl _, fun _ _ => ⟨rfl, own_nilI _ _⟩, fun _ _ => rfl, fun _ _ _ _ _ k hk => by cases hk⟩
theorem Grp.congr {w : World} {B b n : Nat} {g g' : List Int → List Int} (h : Grp w B b n g) (e : ∀ r, g r = g' r) : Grp w B b n g' := by
  have : g = g' := funext e
  exact this ▸ h
theorem Grp.mono {w : World} {B b n n' : Nat} {g : List Int → List Int} (h : Grp w B b n g) (hn : n ≤ n') : Grp w B b n' g := by
  obtain ⟨D, V, h1, r⟩ := h; exact ⟨D, V, World.ownsMap.mono h1 hn, r⟩
theorem Grp.lt {w : World} {B b n : Nat} {g : List Int → List Int} (h : Grp w B b n g) : b < w.heap.size := by
  obtain ⟨D, V, h1, r⟩ := h; exact World.ownsMap.lt h1
theorem Grp.kept {w w' : World} {B b n : Nat} {g : List Int → List Int} (h : Grp w B b n g) (hb : Below w.heap.size w w') : Grp w' B b n g := by
  obtain ⟨D, V, h1, h2, h3, h4, h5⟩ := h
  refine ⟨D, V, World.ownsMap.kept h1 (row := none) ⟨hb.os, hb.tape, hb.output, hb.size, fun i hi _ => hb.block i hi⟩ (by simp), h2, fun r hr => ⟨(h3 r hr).1, (h3 r hr).2.kept hb fun k hk => ((h3 r hr).2.lt k hk).2⟩, h4, h5⟩
/-- A row and a map are two blocks. -/
theorem map_apart {w : World} {b n B : Nat} {D : DataW Value} {v : Value} {l : List Int} (h : MapR w b n D) (h' : OwnI w B v l) : v.ownBlock ≠ some b := by
  intro hg
  obtain ⟨es, clock, hb, -⟩ := h
  rcases h'.2 with ⟨rfl, _⟩ | ⟨g, cap, cur, rfl, hB, hgg, rest⟩
  · cases hg
  · simp [Value.ownBlock] at hg
    subst hg
    rw [hb] at hgg
    cases hgg
set_option maxHeartbeats 1600000 in
theorem add_mid {w w2 : World} {b n : Nat} {D : DataW Value} {box : Obj} {x : Int} (h : MapR w b n D) (hgr : ((w.alloc box).alloc (.cells #[.int .i64 x] 3)).grownBy w2 (some b)) :
    (∀ j u, [Value.int .i64 x][j]? = some u → w2.cell? ((⟨w.heap.size + 1, 0, none⟩ : Addr).add j) = some u) ∧ (∀ B v l, OwnI w B v l → OwnI w2 B v l) ∧ (∀ B, B ≤ b → B ≤ w.heap.size → Below B w w2) ∧ w.heap.size + 2 ≤ w2.heap.size ∧ w2.heap[b]? ≠ none := by
  have hlt := World.ownsMap.lt h
  have hsz := hgr.size
  simp at hsz
  have hs1 : (w.alloc box).heap.size = w.heap.size + 1 := by simp
  refine ⟨fun j u hj => ?_, fun B v l ho => ?_, fun B hB hBw => ?_, by omega, ?_⟩
  · have hc := cell_one_new (w.alloc box) (.int .i64 x) 3 j u hj
    rw [hs1] at hc
    refine (World.cell?_of_block (a := (⟨w.heap.size + 1, 0, none⟩ : Addr).add j) ?_).trans hc
    rw [add_zero_off]
    exact hgr.block (w.heap.size + 1) (by simp) (by simp; omega)
  · refine OwnI.keptBy (OwnI.keptBy (OwnI.keptBy ho (World.grownBy_alloc _ box none) (by simp)) (World.grownBy_alloc _ _ none) (by simp)) hgr (fun k hk => ?_)
    cases hk
    exact map_apart h ho
  · exact (((Below.refl B w).alloc hBw box).alloc (by simp; omega) _).grown hgr (by simp; omega) (fun j hj => by cases hj; exact hB)
  · rw [Ne, Array.getElem?_eq_none_iff]; omega
theorem add_end {r : List Int} {x : Int} {B b n : Nat} {g : List Int → List Int} {w w2 w3 w4 : World} {D : DataW Value} {V : List Int → Value} {v v' : Value} (hr : R5 r) (h1 : MapR w b n D) (h2 : B ≤ b)
    (h3 : ∀ r, R5 r → D.atKey (klR r) (.held nilS) = .held (V r) ∧ OwnI w B (V r) (g r)) (h4 : ∀ r, R5 r → Maps.has D (klR r) = !(g r).isEmpty) (h5 : ∀ r r', R5 r → R5 r' → r ≠ r' → ∀ k, (V r).ownBlock = some k → (V r').ownBlock ≠ some k)
    (hv : v = V r) (hb2 : Below B w w2) (ho2 : ∀ B v l, OwnI w B v l → OwnI w2 B v l) (hs2 : w.heap.size + 2 ≤ w2.heap.size) (hown : w3.ownsRow B 3 1 v' ((g r).length + 1) (intsV (g r) ++ [.int .i64 x])) (hgr : w2.grownBy w3 v.ownBlock) (hat : v'.ownBlock = v.ownBlock ∨ v'.ownBlock = some w2.heap.size)
    (hM : MapR w4 b (n + 1) (D.put (klR r) (.held v'))) (hg4 : w3.grownBy w4 (some b)) : Grp w4 B b (n + 1) (fun s => if s = r then g s ++ [x] else g s) ∧ Below B w w4 := by
  have hlt := World.ownsMap.lt h1
  have hmD : Maps.IsMap D := World.ownsMap.isMap h1
  have hvb : v'.ownBlock ≠ some b := by
    rcases hat with h | h
    · rw [h, hv]; exact map_apart h1 (h3 r hr).2
    · rw [h]; simp; omega
  refine ⟨⟨_, fun s => if s = r then v' else V s, hM, h2, fun s hs => ?_, fun s hs => ?_, fun s t hs ht hst k hk => ?_⟩, ?_⟩
  · by_cases hsr : s = r
    · subst hsr
      have hkk := @klR_key s hs
      simp only [if_true]
      exact ⟨Go.Maps.atKey_put_same (k := klR s) hmD hkk _ _, OwnI.keptBy (OwnI.snoc hown) hg4 (fun k hk => by cases hk; exact hvb)⟩
    · simp only [hsr, if_false]
      obtain ⟨e1, e2⟩ := h3 s hs
      refine ⟨by rw [Go.Maps.atKey_put_other (fun e => hsr (klR_inj hs hr e))]; exact e1, OwnI.keptBy (OwnI.keptBy (ho2 _ _ _ e2) hgr (fun k hk => ?_)) hg4 (fun k hk => by cases hk; exact map_apart h1 e2)⟩
      rw [hv] at hk
      exact h5 r s hr hs (fun e => hsr e.symm) k hk
  · by_cases hsr : s = r
    · subst hsr
      have hkk := @klR_key s hs
      simp only [if_true]
      rw [Go.Maps.has_put_same (k := klR s) hmD hkk]; simp
    · simp only [hsr, if_false]
      rw [Go.Maps.has_put_other (fun e => hsr (klR_inj hs hr e))]; exact h4 s hs
  · have new : ∀ s, R5 s → s ≠ r → ∀ k, v'.ownBlock = some k → (V s).ownBlock ≠ some k := fun s hs hsr k hk e => by
      rcases hat with h | h
      · rw [h, hv] at hk; exact h5 r s hr hs (fun e => hsr e.symm) k hk e
      · rw [h] at hk; cases hk
        have := ((h3 s hs).2.lt _ e).2
        omega
    simp only at hk ⊢
    by_cases hsr : s = r
    · rw [if_pos hsr] at hk
      rw [if_neg (fun e => hst (hsr.trans e.symm))]
      exact new t ht (fun e => hst (hsr.trans e.symm)) k hk
    · rw [if_neg hsr] at hk
      by_cases htr : t = r
      · rw [if_pos htr]
        exact fun e => new s hs hsr k e hk
      · rw [if_neg htr]
        exact h5 s t hs ht hst k hk
  · have hsz := hgr.size
    refine (hb2.grown hgr (by omega) (fun k hk => ?_)).grown hg4 (by omega) (fun j hj => by cases hj; exact h2)
    rw [hv] at hk
    exact ((h3 r hr).2.lt k hk).1
set_option maxRecDepth 20000 in
set_option maxHeartbeats 1600000 in
theorem add_any (r : List Int) (x : Int) (B b n : Nat) (g : List Int → List Int) (w : World) (h : Grp w B b n g) (hr : R5 r) (hn : n < 1048576) (hl : (g r).length < 1048576) (hB : B ≤ w.heap.size) :
    Calls Tryz.prog 55 #[.map (some b), recV r, .int .i64 x] w fun e w' => e = .returned (.tuple #[]) ∧ Grp w' B b (n + 1) (fun s => if s = r then g s ++ [x] else g s) ∧ Below B w w' := by
  obtain ⟨D, V, h1, h2, h3, h4, h5⟩ := h
  obtain ⟨i0, hi, hz0, hz1, hz2⟩ := info_parts info3i
  have HK := keyOf_klR hr
  have H1 := Lib.hid h1
  have H3 := Lib.hid h3
  have H4 := Lib.hid h4
  have H5 := Lib.hid h5
  have HR := Lib.hid hr
  clear h1 h3 h4 h5 hr
  unfold recV at HK ⊢
  generalize r.getD 0 0 = a0, r.getD 1 0 = a1, r.getD 2 0 = a2, r.getD 3 0 = a3, r.getD 4 0 = a4 at HK ⊢
  replace HK := Lib.hid HK
  go_enter Tryz.func55, Tryz.ntmps55
  go_wp2_with (first
    | (refine mapR_entry _ rfl _ _ rfl b n D rfl (World.ownsMap.alloc (World.ownsMap.alloc H1.out _) _) (by unfold maxLen; omega) _ (klR r) rfl HK.out ?_
       intro v st w2 hat hback hgr hsz
       have HV : Hid (v = V r) := Lib.hid (by have e := (H3.out r HR.out).1.symm.trans hat; cases e; rfl)
       obtain ⟨hc, ho, hb, hs2, -⟩ := add_mid H1.out hgr
       have hov : OwnI w2 B v (g r) := by rw [HV.out]; exact ho _ _ _ (H3.out r HR.out).2
       have HO := Lib.hid ho
       have HB2 := Lib.hid (hb B h2 hB)
       have HC := Lib.hid hc
       have HOV := Lib.hid hov
       have HBK := Lib.hid hback
       have hbne : some b ≠ v.ownBlock := fun e => map_apart H1.out (H3.out r HR.out).2 (by rw [← HV.out]; exact e.symm)
       have HBN := Lib.hid hbne
       have hlt : b < w2.heap.size := by have := World.ownsMap.lt H1.out; omega
       clear hat hback hgr hsz hc ho hb hov hbne)
    | (at_builtin; refine wpList_append_own_at _ rfl _ _ 29 rfl B 3 i0 (.int .i64 0) 1 8 Tryz.underlying29 hi hz0 hz1 hz2 rfl (by decide) _ _ _ rfl HOV.out ⟨w.heap.size + 1, 0, none⟩ 1 1 [.int .i64 x] rfl rfl HC.out (by intro u hu; simp at hu; subst hu; rfl) (by unfold maxLen; omega) (by omega) (by omega) ?_
       intro v' w3 hown hgr3 hnil hat3
       have hbk : w3.heap[b]? = w2.heap[b]? := hgr3.block b hlt HBN.out
       have HBW := Lib.hid hbk
       have HW3 := Lib.hid hown
       have HG3 := Lib.hid hgr3
       have HA3 := Lib.hid hat3
       clear hbk hown hgr3 hnil hat3)
    | (refine mapR_store _ rfl _ _ _ rfl b n D (klR r) _ _ _ HBK.out rfl rfl rfl HBW.out ?_
       intro w4 hM4 hg4))
  go_end0
  exact ⟨rfl, add_end HR.out H1.out h2 H3.out H4.out H5.out HV.out HB2.out HO.out hs2 HW3.out HG3.out HA3.out hM4 hg4⟩
end Go.Proofs.YtnbjcelfdppkcaaGreat
namespace Go.Proofs.YtnbjcelfdppkcaaGreat
open Go.RowKit
open Go.Maps (Keyed)

/-- A slice reads as itself. -/
def tokS : Value → Option (DataW Value × List MemPlace)
  | .slice a n c => some (.held (.slice a n c), [])
  | _ => none
theorem tokS_inv {v : Value} {y : DataW Value × List MemPlace} (h : tokS v = some y) : ∃ a n c, v = .slice a n c ∧ y = (.held v, []) := by
  cases v <;> simp [tokS] at h
  subst h
  exact ⟨_, _, _, rfl, rfl⟩
def MapS (w : World) (b n : Nat) (D : DataW Value) : Prop := w.ownsMap Tryz.prog 77 tokS b n D
/-- A key is there, with one value, or not there. -/
theorem has_at {w : World} {b n : Nat} {D : DataW Value} {R : Value → Option (DataW Value × List MemPlace)} (h : w.ownsMap Tryz.prog 77 R b n D) {r : List Int} (hr : R5 r) : (Maps.has D (klR r) = false) ∨ ∃ y, ∀ zd, D.atKey (klR r) zd = y := by
  obtain ⟨es, clock, hb, F, hs, rfl⟩ := h
  rcases Maps.fit_look false keyR Tryz.underlying73 (zeroS w) hb F (keyOf_klR hr) with ⟨-, -, hat⟩ | ⟨e0, y, -, -, -, -, hat, -⟩
  · exact .inl (Maps.has_false_of_atKey hat)
  · exact .inr ⟨_, hat⟩
theorem toS {w : World} {b n : Nat} {D : DataW Value} (h : MapR w b n D) (hsl : ∀ r, R5 r → ∀ v, (∀ zd, D.atKey (klR r) zd = .held v) → ∃ a m c, v = .slice a m c) : MapS w b n D := by
  obtain ⟨es, clock, hb, F, hs, rfl⟩ := h
  refine (World.ownsMap_of_fit (R := tokS) hb F (fun x hx z hz => ?_)).mono hs
  cases hz
  obtain ⟨y, hy⟩ := F.reads x hx
  have hk := Go.WideElems.rd_key hy
  obtain ⟨r, hr, hxk, hkl⟩ := rec_inv hk
  rcases Maps.fit_look false keyR Tryz.underlying73 (zeroS w) hb F (keyOf_klR hr) with ⟨-, hne, -⟩ | ⟨e0, z, hm0, h3, -, hR, hat, -⟩
  · exact absurd hxk (hne x hx)
  · obtain rfl := entry_eq_of_key ((MapKept.stamped_iff es clock).1 F.stamped).2.2 hm0 hx (h3.trans hxk.symm)
    cases hR
    obtain ⟨a, m, c, e⟩ := hsl r hr _ hat
    rw [e]; rfl
/-- What is in the map while the short groups are dropped: the long ones, and those that are still to come. -/
def PhA (D D' : DataW Value) (V : List Int → Value) (g : List Int → List Int) (left : Lit → Bool) : Prop :=
  Maps.IsMap D' ∧ ∀ x, R5 x → Maps.has D' (klR x) = (Maps.has D (klR x) && (left (klR x) || decide (2 ≤ (g x).length))) ∧ (Maps.has D' (klR x) = true → ∀ zd, D'.atKey (klR x) zd = .held (V x))
theorem PhA.start {w : World} {b n : Nat} {D : DataW Value} {V : List Int → Value} {g : List Int → List Int} (h : MapR w b n D) (h3 : ∀ r, R5 r → D.atKey (klR r) (.held nilS) = .held (V r)) : PhA D D V g (Maps.has D) := by
  refine ⟨World.ownsMap.isMap h, fun x hx => ⟨by cases Maps.has D (klR x) <;> simp, fun hh zd => ?_⟩⟩
  rcases has_at h hx with he | ⟨y, hy⟩
  · rw [he] at hh; cases hh
  · rw [hy zd, ← hy (.held nilS)]; exact h3 x hx
theorem PhA.drop {D D' : DataW Value} {V : List Int → Value} {g : List Int → List Int} {left : Lit → Bool} (h : PhA D D' V g left) {x0 : List Int} (h0 : R5 x0) (hs : (g x0).length < 2) : PhA D (D'.del (klR x0)) V g (fun z => left z && !z.sameKey (klR x0)) := by
  refine ⟨h.1.del _, fun x hx => ?_⟩
  obtain ⟨e1, e2⟩ := h.2 x hx
  show Maps.has (D'.del (klR x0)) (klR x) = (Maps.has D (klR x) && ((left (klR x) && !(klR x).sameKey (klR x0)) || _)) ∧ _
  rw [strike hx h0]
  by_cases hxx : x = x0
  · subst hxx
    rw [Go.Maps.has_del_same]
    refine ⟨by simp; omega, fun hh => by cases hh⟩
  · have hne : klR x ≠ klR x0 := fun e => hxx (klR_inj hx h0 e)
    rw [Go.Maps.has_del_other hne]
    refine ⟨by rw [e1]; simp [hxx], fun hh zd => by rw [Go.Maps.atKey_del_other hne]; exact e2 hh zd⟩
theorem PhA.keep {D D' : DataW Value} {V : List Int → Value} {g : List Int → List Int} {left : Lit → Bool} (h : PhA D D' V g left) {x0 : List Int} (h0 : R5 x0) (hs : 2 ≤ (g x0).length) : PhA D D' V g (fun z => left z && !z.sameKey (klR x0)) := by
  refine ⟨h.1, fun x hx => ?_⟩
  obtain ⟨e1, e2⟩ := h.2 x hx
  refine ⟨?_, e2⟩
  show _ = (Maps.has D (klR x) && ((left (klR x) && !(klR x).sameKey (klR x0)) || _))
  rw [strike hx h0, e1]
  by_cases hxx : x = x0
  · subst hxx; simp [hs]
  · simp [hxx]
theorem PhA.stop {D D' : DataW Value} {V : List Int → Value} {g : List Int → List Int} {left : Lit → Bool} (h : PhA D D' V g left) (hl : ∀ kl, left kl = false) (h4 : ∀ r, R5 r → Maps.has D (klR r) = !(g r).isEmpty) :
    ∀ x, R5 x → Maps.has D' (klR x) = decide (2 ≤ (g x).length) ∧ (Maps.has D' (klR x) = true → ∀ zd, D'.atKey (klR x) zd = .held (V x)) := by
  intro x hx
  obtain ⟨e1, e2⟩ := h.2 x hx
  refine ⟨?_, e2⟩
  rw [e1, hl, h4 x hx]
  cases hg : g x with
  | nil => simp
  | cons a t => simp
section
variable (w : World) {ops : Array Oper} {rest : List Oper} {o : Oper} {a : Act} {Q : Exit → Act → World → Prop}
theorem mapS_next (hg : o.guard = none) (it : Operand) (hop : o.op = Op.next it false) (b r n : Nat) (D : DataW Value) (left : Lit → Bool) (cnt : Nat) (hit : a.eval it = .pointer (some ⟨r, 0, none⟩)) (h : w.ranges Tryz.prog 77 tokS b r n D left cnt)
    (hDone : cnt = 0 → (∀ kl, left kl = false) → wpList Tryz.prog ops Q rest (a.put o.dst (.tuple #[.bool false])) w)
    (hMore : ∀ (a0 a1 a2 a3 a4 : Int) (ad : Option Addr) (m c : Nat) (w' : World) (cnt' : Nat), R5 [a0, a1, a2, a3, a4] → left (klR [a0, a1, a2, a3, a4]) = true → (∀ zd, D.atKey (klR [a0, a1, a2, a3, a4]) zd = .held (.slice ad m c)) →
      w'.ranges Tryz.prog 77 tokS b r n D (fun z => left z && !z.sameKey (klR [a0, a1, a2, a3, a4])) cnt' → cnt' < cnt → w.grownBy w' (some r) → w'.heap.size = w.heap.size →
      (Instr.entry (.pointer (some ⟨r, 0, none⟩))).run Tryz.prog w' = .ok (.tuple #[.agg #[.int .i64 a0, .int .i64 a1, .int .i64 a2, .int .i64 a3, .int .i64 a4], .slice ad m c]) w' →
      wpList Tryz.prog ops Q rest (a.put o.dst (.tuple #[.bool true, .agg #[.int .i64 a0, .int .i64 a1, .int .i64 a2, .int .i64 a3, .int .i64 a4], .slice ad m c])) w') : wpList Tryz.prog ops Q (o :: rest) a w := by
  refine wpList_next_ranges w hg it hop 77 keyR tokS (fun r : {r : List Int // R5 r} => recV r.1) (fun t : Option Addr × Nat × Nat => .slice t.1 t.2.1 t.2.2) (fun key kl hk => ?_) (fun v y hv => ?_) b r n D left cnt hit h hDone (fun x c kl y w' cnt' hkey hlk hv hat hrg hlt hgr hsz hen => ?_)
  · obtain ⟨r, hr, e, -⟩ := rec_inv hk
    exact ⟨⟨r, hr⟩, e⟩
  · obtain ⟨a, m, c, e, -⟩ := tokS_inv hv
    exact ⟨(a, m, c), e⟩
  · obtain ⟨x, hx⟩ := x
    obtain ⟨ad, m, c⟩ := c
    have hkk := keyOf_klR hx
    rw [hkey] at hkk
    cases hkk
    cases hv
    have hx5 := r5_list hx
    obtain ⟨a0, a1, a2, a3, a4, rfl⟩ : ∃ a0 a1 a2 a3 a4, x = [a0, a1, a2, a3, a4] := ⟨_, _, _, _, _, hx5⟩
    exact hMore a0 a1 a2 a3 a4 ad m c w' cnt' hx hlk hat hrg hlt hgr hsz hen
end
end Go.Proofs.YtnbjcelfdppkcaaGreat
namespace Go.Proofs.YtnbjcelfdppkcaaGreat
open Go.RowKit Go.Sort Go.Shelf

/-- The first cells of block g hold the slices l, each of a row of its own from block B on, none of them in g. -/
structure Rws (w : World) (B g : Nat) (l : List (Value × List Int)) : Prop where
  cell : ∀ j, j < l.length → w.cell? ⟨g, j, none⟩ = some (l.getD j (.slice none 0 0, [])).1 ∧ w.frozen? ⟨g, j, none⟩ = false
  recs : ∀ p ∈ l, OwnI w B p.1 p.2 ∧ p.1.ownBlock ≠ some g ∧ p.2.length ≤ 1048576
theorem getD_memV {α : Type} (l : List α) (j : Nat) (d : α) (h : j < l.length) : l.getD j d ∈ l := by rw [List.getD_eq_getElem?_getD, List.getElem?_eq_getElem h]; exact List.getElem_mem _
theorem getD_getV {α : Type} (l : List α) (j : Nat) (d : α) (h : j < l.length) : l.getD j d = l[j] := by rw [List.getD_eq_getElem?_getD, List.getElem?_eq_getElem h]; rfl
/-- Slices that may be sorted. -/
structure RecW (w : World) (B g : Nat) where
  val : Value × List Int
  ok : OwnI w B val.1 val.2 ∧ val.1.ownBlock ≠ some g ∧ val.2.length ≤ 1048576
def encW {w : World} {B g : Nat} (x : RecW w B g) : Value := x.1.1
def cfW {w : World} {B g : Nat} (x y : RecW w B g) : Int := cmpL x.1.2 y.1.2
theorem ltW {w : World} {B g : Nat} (x y : RecW w B g) : ltOf cfW x y = lessR x.1.2 y.1.2 := cmpL_less _ _
theorem lessR_ntransV {a b c : List Int} (h1 : lessR a b = false) (h2 : lessR b c = false) : lessR a c = false := by
  cases h : lessR a c with
  | false => rfl
  | true =>
    cases h3 : lessR c b with
    | true => rw [lessR_trans _ _ _ h h3] at h1; cases h1
    | false => rw [lessR_total _ _ h2 h3] at h1; rw [h1] at h; cases h
theorem swoW (w : World) (B g : Nat) : SWO (ltOf (cfW (w := w) (B := B) (g := g))) where
  irrefl x := by rw [ltW]; exact lessR_irrefl _
  trans x y z h1 h2 := by rw [ltW] at *; exact lessR_trans _ _ _ h1 h2
  ntrans x y z h1 h2 := by rw [ltW] at *; exact lessR_ntransV h1 h2
theorem grownBy_sortW {w : World} {B g m : Nat} [Inhabited (RecW w B g)] (os : Array Obj) (d : Array (RecW w B g)) : w.grownBy (sortWorld encW w g 0 m d os) (some g) := by
  unfold sortWorld
  refine ⟨rfl, rfl, rfl, by rw [size_grow, Sort.size_putRow]; exact Nat.le_add_right _ _, fun k hk hne => ?_⟩
  rw [heap_grow_old _ _ (by rw [Sort.size_putRow]; exact hk)]
  have : g ≠ k := fun e => hne (by rw [e])
  simp [putRow, mapBlock, Sort.ahead, Array.getElem?_modify, this]
theorem heap_sortW {w : World} {B g m : Nat} [Inhabited (RecW w B g)] {cur : Array Value} {e : TypeId} {fr : Nat × Nat} (os : Array Obj) (d : Array (RecW w B g)) (hb : w.heap[g]? = some (.cells cur e fr)) :
    (sortWorld encW w g 0 m d os).heap[g]? = some (.cells (putCells encW 0 d cur) e fr) := by
  have hg : g < w.heap.size := (Array.getElem?_eq_some_iff.1 hb).1
  unfold sortWorld
  rw [heap_grow_old _ _ (by simpa using hg)]
  simp [putRow, mapBlock, Sort.ahead, Array.getElem?_modify, hb, onCells]
theorem take_putW {w : World} {B g : Nat} [Inhabited (RecW w B g)] (cur : Array Value) (d : Array (RecW w B g)) (h : d.size ≤ cur.size) : (putCells encW 0 d cur).toList.take d.size = d.toList.map encW := by
  apply List.ext_getElem?
  intro j
  by_cases hj : j < d.size
  · rw [List.getElem?_take_of_lt hj, Array.getElem?_toList]
    simp [putCells, hj, show j < cur.size by omega]
  · rw [List.getElem?_take_eq_none (by omega), List.getElem?_eq_none (by simp; omega)]
theorem own_sort {w : World} {B g m : Nat} [Inhabited (RecW w B g)] (os : Array Obj) (dk : Array (RecW w B g)) (x : RecW w B g) : OwnI (sortWorld encW w g 0 m dk os) B x.1.1 x.1.2 :=
  OwnI.keptBy x.2.1 (grownBy_sortW os dk) (fun k hk => by cases hk; exact x.2.2.1)
theorem own_oneCell {w : World} {B : Nat} {v : Value} {l : List Int} (h : OwnI w B v l) : ∃ a n c, v = .slice a n c := by
  rcases h.shape with ⟨rfl, -⟩ | ⟨g, cap, rfl, -⟩ <;> exact ⟨_, _, _, rfl⟩
/-- In order: none is less than one before it. -/
def OrdV (l : List (Value × List Int)) : Prop := l.Pairwise fun p q => lessR q.2 p.2 = false
set_option maxHeartbeats 800000 in
theorem sortRows_some (B g cap : Nat) (l : List (Value × List Int)) (w : World) (h : Rws w B g l) (hg : g < w.heap.size) (hl : l.length ≤ 1048576) (cur : Array Value) (hcur : w.heap[g]? = some (.cells cur 29 (0, 0))) (hcl : l.length ≤ cur.size) (h0 : 0 < l.length) :
    Calls Tryz.prog 74 #[.slice (some ⟨g, 0, none⟩) l.length cap, .func (.func 75) #[] #[]] w fun e w' =>
      e = .returned (.tuple #[]) ∧ ∃ l', l'.Perm l ∧ OrdV l' ∧ Rws w' B g l' ∧ w.grownBy w' (some g) ∧ ∃ cur', w'.heap[g]? = some (.cells cur' 29 (0, 0)) ∧ cur'.size = cur.size ∧ cur'.toList.take l.length = l'.map (·.1) := by
  haveI : Inhabited (RecW w B g) := ⟨⟨l.getD 0 (.slice none 0 0, []), h.recs _ (getD_memV _ _ _ h0)⟩⟩
  have eg : ∀ args w, (callFunc 75 args).run Tryz.prog w = .ok (.enter 75 args) w := enters_of Tryz.func75 (by kernel_rfl) rfl
  obtain ⟨L, hL⟩ : ∃ L : List (RecW w B g), L.map (fun x => x.1) = l := ⟨l.attach.map fun p => ⟨p.1, h.recs p.1 p.2⟩, by
    rw [List.map_map]; exact List.attach_map_subtype_val l⟩
  have hlen : L.toArray.size = l.length := by rw [← hL]; simp
  have hget : ∀ j, j < l.length → (L.toArray[j]!).1 = l.getD j (.slice none 0 0, []) := fun j hj => by
    have hj' : j < L.length := by simpa using (by rw [hlen]; exact hj : j < L.toArray.size)
    rw [getElem!_pos L.toArray j (by rw [hlen]; exact hj), getD_getV _ _ _ hj]
    simp [← hL]
  have hH : Holds encW w g 0 L.toArray := fun j hj => by
    rw [hlen] at hj
    obtain ⟨c1, c2⟩ := h.cell j hj
    rw [Nat.zero_add]
    refine ⟨?_, c2⟩
    unfold encW
    rw [hget j hj]; exact c1
  have hcmp : CmpReads Tryz.prog 75 #[] encW (cfW (w := w) (B := B) (g := g)) g 0 L.toArray.size w := fun m os dk _ x y =>
    (slCompare_any x.1.1 y.1.1 x.1.2 y.1.2 _ (own_sort os dk x).read (own_sort os dk y).read (by have := x.2.2.2; omega) (by have := y.2.2.2; omega)).mono fun _ _ ⟨a, b⟩ => ⟨a, 0, b.symm⟩
  have hS := Any.slices_SortFunc sortL encW (fun x => by obtain ⟨a, n, c, e⟩ := own_oneCell x.2.1; unfold encW; rw [e]; rfl) cfW (swoW w B g) 75 #[] g 0 cap L.toArray w eg hcmp.lays hH hg (by rw [hlen]; omega)
  rw [hlen] at hS
  change Calls Tryz.prog 74 _ _ _ at hS
  refine hS.mono ?_
  rintro e w' ⟨rfl, d', m, os, hp, hs, rfl⟩
  have hds : d'.size = l.length := by rw [hp.1, hlen]
  have hgd : ∀ j, j < l.length → (d'[j]!).1 = (d'.toList.map fun x => x.1).getD j (.slice none 0 0, []) := fun j hj => by
    rw [getElem!_pos d' j (by omega), getD_getV _ _ _ (by simpa using (by omega : j < d'.size))]
    simp
  refine ⟨rfl, d'.toList.map (fun x => x.1), ?_, ?_, ⟨fun j hj => ?_, fun p hp' => ?_⟩, grownBy_sortW os d', _, heap_sortW os d' hcur, by simp [putCells], ?_⟩
  · have h2 := hp.2.2
    rw [Array.extract_eq_self_of_le (by omega), Array.extract_eq_self_of_le (by omega)] at h2
    have h3 := h2.map (fun x => x.1)
    rw [hL] at h3
    exact h3
  · unfold OrdV
    rw [List.pairwise_map, List.pairwise_iff_getElem]
    intro i j hi hj hij
    have h2 := hs i j (Nat.zero_le _) hij (by simp at hj; omega)
    rw [getElem!_pos d' j (by simpa using hj), getElem!_pos d' i (by simpa using hi), ltW] at h2
    simpa using h2
  · have hj' : j < l.length := by simp at hj; omega
    have hh := holds_grow encW _ os g 0 d' (by rw [Sort.size_putRow]; exact hg) (holds_putRow encW (Sort.ahead w m) g 0 L.toArray d' hH (by omega)) j (by omega)
    rw [Nat.zero_add] at hh
    refine ⟨?_, hh.2⟩
    rw [← hgd j hj']; exact hh.1
  · rw [List.mem_map] at hp'
    obtain ⟨x, -, rfl⟩ := hp'
    exact ⟨own_sort os d' x, x.2.2⟩
  · rw [← hds, take_putW cur d' (by omega)]; simp [encW]
theorem sortRows_any (B g cap : Nat) (l : List (Value × List Int)) (w : World) (h : Rws w B g l) (hg : g < w.heap.size) (hl : l.length ≤ 1048576) (cur : Array Value) (hcur : w.heap[g]? = some (.cells cur 29 (0, 0))) (hcl : l.length ≤ cur.size) :
    Calls Tryz.prog 74 #[.slice (some ⟨g, 0, none⟩) l.length cap, .func (.func 75) #[] #[]] w fun e w' =>
      e = .returned (.tuple #[]) ∧ ∃ l', l'.Perm l ∧ OrdV l' ∧ Rws w' B g l' ∧ w.grownBy w' (some g) ∧ ∃ cur', w'.heap[g]? = some (.cells cur' 29 (0, 0)) ∧ cur'.size = cur.size ∧ cur'.toList.take l.length = l'.map (·.1) := by
  by_cases h0 : 0 < l.length
  · exact sortRows_some B g cap l w h hg hl cur hcur hcl h0
  · obtain rfl : l = [] := List.eq_nil_of_length_eq_zero (by omega)
    have hS := AnyF.slices_SortFunc_none (P := Tryz.prog) (ρ := sortL_ren) { sortL with } (some ⟨g, 0, none⟩) cap (.func (.func 75) #[] #[]) w
    change Calls Tryz.prog 74 _ _ _ at hS
    refine hS.mono ?_
    rintro e w' ⟨rfl, rfl⟩
    exact ⟨rfl, [], List.Perm.refl _, List.Pairwise.nil, h, ⟨rfl, rfl, rfl, Nat.le_refl _, fun _ _ _ => rfl⟩, cur, hcur, rfl, rfl⟩
end Go.Proofs.YtnbjcelfdppkcaaGreat
namespace Go.Proofs.YtnbjcelfdppkcaaGreat
open Go.RowKit Go.Sort Go.Shelf

set_option maxHeartbeats 800000 in
theorem sortOwn_any (B C : Nat) (v : Value) (P : List (Value × List Int)) (w : World) (hown : w.ownsRow C 29 1 v P.length (P.map (·.1))) (hP : ∀ p ∈ P, OwnI w B p.1 p.2 ∧ (∀ k, p.1.ownBlock = some k → k < C) ∧ p.2.length ≤ 1048576) (hl : P.length ≤ 1048576) :
    Calls Tryz.prog 74 #[v, .func (.func 75) #[] #[]] w fun e w' =>
      e = .returned (.tuple #[]) ∧ ∃ P', P'.Perm P ∧ OrdV P' ∧ w'.ownsRow C 29 1 v P'.length (P'.map (·.1)) ∧ (∀ p ∈ P', OwnI w' B p.1 p.2 ∧ (∀ k, p.1.ownBlock = some k → k < C)) ∧ Below C w w' := by
  rcases hown.2 with ⟨rfl, h0⟩ | ⟨g, cap, cur, rfl, hg, hcur, hc1, hc2, hc3, hc4⟩
  · obtain rfl : P = [] := List.eq_nil_of_length_eq_zero h0
    have hS := AnyF.slices_SortFunc_none (P := Tryz.prog) (ρ := sortL_ren) { sortL with } none 0 (.func (.func 75) #[] #[]) w
    change Calls Tryz.prog 74 _ _ _ at hS
    refine hS.mono ?_
    rintro e w' ⟨rfl, rfl⟩
    exact ⟨rfl, [], List.Perm.refl _, List.Pairwise.nil, hown, (fun p hp => by cases hp), Below.refl _ _⟩
  · have hgs : g < w.heap.size := (Array.getElem?_eq_some_iff.1 hcur).1
    have hapart : ∀ p ∈ P, p.1.ownBlock ≠ some g := fun p hp e => by have := (hP p hp).2.1 g e; omega
    rw [Nat.mul_one] at hc3 hc4
    have hR : Rws w B g P := by
      refine ⟨fun j hj => ⟨?_, ?_⟩, fun p hp => ⟨(hP p hp).1, hapart p hp, (hP p hp).2.2⟩⟩
      · rw [World.ownsRow.cellAt hown j (by omega), List.getElem?_map, List.getElem?_eq_getElem hj, getD_getV _ _ _ hj]; rfl
      · exact World.ownsRow.frozenAt hown j
    refine (sortRows_any B g cap P w hR hgs hl cur hcur (by omega)).mono ?_
    rintro e w' ⟨rfl, P', hp, ho, hR', hgr, cur', hcur', hcs, hct⟩
    have hlen := hp.length_eq
    refine ⟨rfl, P', hp, ho, ⟨by simp, .inr ⟨g, cap, cur', by rw [hlen], hg, hcur', by omega, hc2, by omega, by rw [Nat.mul_one, hlen]; exact hct⟩⟩, fun p hpm => ⟨(hR'.recs p hpm).1, (hP p (hp.mem_iff.1 hpm)).2.1⟩, ?_⟩
    exact (Below.refl _ _).grown hgr (by omega) (fun k hk => by cases hk; exact hg)
end Go.Proofs.YtnbjcelfdppkcaaGreat
