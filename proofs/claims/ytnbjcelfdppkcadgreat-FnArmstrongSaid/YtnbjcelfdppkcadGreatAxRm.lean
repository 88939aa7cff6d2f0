/- The rows of sets of columns and their table, by contract. Conditions: as stated. -/
import Derived.Test.YtnbjcelfdppkcadGreatXz35
import Derived.Test.YtnbjcelfdppkcadGreatXz13
import Derived.Deep.RegionLaw
import Derived.Deep.CutBlock
import Derived.Deep.DeepCutAuto
namespace Go.Proofs.YtnbjcelfdppkcadGreat
open Go.RowKit

/-- Rows that fill their row, which lies in memory of the call's own. -/
def RetR (ll : List (List Int)) (w : World) (e : Ending) (w' : World) : Prop :=
  ∃ g, e = .returned (.slice (some ⟨g, 0, none⟩) ll.length ll.length) ∧ OwnSS w' w.heap.size w'.heap.size (.slice (some ⟨g, 0, none⟩) ll.length ll.length) ll ∧ Below w.heap.size w w'
def RetT12 (c : Int) (ll : List (List Int)) (w : World) (e : Ending) (w' : World) : Prop :=
  ∃ v, e = .returned (.agg #[.int .i64 c, v]) ∧ OwnSS w' w.heap.size w'.heap.size v ll ∧ Below w.heap.size w w'
theorem rows_close {w w3 w5 : World} {k cap : Nat} {rv : Value} {L : List (List Int)} {r : List Int} (hk : L.length = k) (hO : OwnSS w3 w.heap.size w3.heap.size (.slice (some ⟨w.heap.size, 0, none⟩) k cap) L) (hB : Below w.heap.size w w3) (hb : Below w3.heap.size w3 w5) (hr : OwnI w5 w3.heap.size rv r) :
    ∃ V : Nat → Value, Hid ((w5.alloc (.cells #[rv] 40)).ownsRow w.heap.size 40 1 (.slice (some ⟨w.heap.size, 0, none⟩) k cap) k ((List.range k).map V)) ∧
      Hid (∀ y, (w5.alloc (.cells #[rv] 40)).grownBy y (some w.heap.size) → y.ownsRow w.heap.size 40 1 (.slice (some ⟨w.heap.size, 0, none⟩) (k + 1) cap) (k + 1) ((List.range k).map V ++ [rv]) →
        OwnSS y w.heap.size y.heap.size (.slice (some ⟨w.heap.size, 0, none⟩) (k + 1) cap) (L ++ [r]) ∧ Below w.heap.size w y) := by
  subst hk
  obtain ⟨V, o1, o2, o3, o4⟩ := hO.same (Below.keeps hb (Nat.le_refl _))
  have al := (Below.refl w5.heap.size w5).alloc (Nat.le_refl _) (.cells #[rv] 40)
  have h3 := hB.size
  have h5 := hb.size
  refine ⟨V, Lib.hid (World.ownsRow.alloc o1 _), Lib.hid (fun y hg ho => ⟨?_, ?_⟩)⟩
  · have hs := hg.size
    rw [World.size_alloc] at hs
    exact OwnSS.snocV (C := w3.heap.size) (World.ownsRow.alloc o1 _) o2 (fun i hi => ⟨World.ownsRow.alloc (o3 i hi).1 _, (o3 i hi).2⟩) o4 (World.ownsRow.alloc (hr.base h3) _) (fun g hgr => ⟨(hr.lt g hgr).1, by have := (hr.lt g hgr).2; omega⟩) ho hg (by omega) (fun g hgv => (World.ownsRow.lt ho g hgv).2)
  · exact ((hB.trans (hb.mono h3)).trans (al.mono (by omega))).grown hg (by rw [World.size_alloc]; omega) (fun g hg => by cases hg; exact Nat.le_refl _)
theorem rows_start {w w0 : World} {cap : Nat} (h : w0.ownsRow w.heap.size 40 1 (.slice (some ⟨w.heap.size, 0, none⟩) 0 cap) 0 []) : OwnSS w0 w.heap.size w0.heap.size (.slice (some ⟨w.heap.size, 0, none⟩) 0 cap) [] :=
  ⟨fun _ => .slice none 0 0, h, fun g hg => (World.ownsRow.lt h g hg).2, fun _ h => absurd h (Nat.not_lt_zero _), fun _ _ _ h => absurd h (Nat.not_lt_zero _)⟩
theorem BxT.under {w w' : World} {b c : Nat} {x : Int} {u : Value} (h : BxT w b x u) (hb : Below c w w') (hc : b < c) : BxT w' b x u := (hb.block b hc).trans h
theorem ownSS_form {w : World} {B C : Nat} {v : Value} {ll : List (List Int)} (h : OwnSS w B C v ll) : ∃ a c n, v = .slice a n c := by
  obtain ⟨a, c, h, -⟩ := h.cap
  exact ⟨a, c, _, h⟩
/-- The rows, the row of zeros and the row that holds it, ready to be put together. -/
def TabIn (w1 y : World) (g k C zb vb : Nat) (L : List (List Int)) : Prop := ∃ D E, w1.heap.size ≤ D ∧ OwnSS y D E (.slice (some ⟨g, 0, none⟩) k k) L ∧ E ≤ y.heap.size ∧ OwnI y w1.heap.size (.slice (some ⟨zb, 0, none⟩) C C) (List.replicate C 0) ∧ (zb < D ∨ E ≤ zb) ∧
  y.cell? ⟨vb, 0, none⟩ = some (.slice (some ⟨zb, 0, none⟩) C C) ∧ Below w1.heap.size w1 y
theorem zeros_new (w : World) (B C : Nat) (hB : B ≤ w.heap.size) (hC : C ≤ 1000) : OwnI (w.alloc (.cells (madeCells #[Value.int .i64 0] C) 3)) B (.slice (some ⟨w.heap.size, 0, none⟩) C C) (List.replicate C 0) := by
  have h := own_zeros w B C hB hC
  rw [Nat.mul_one] at h
  exact h
theorem cell_new1 (w : World) (u : Value) (T : TypeId) : (w.alloc (.cells #[u] T)).cell? ⟨w.heap.size, 0, none⟩ = some u := one_at w T u
theorem tbaA {w1 w3 : World} {g k C zb : Nat} {L : List (List Int)} (ho : OwnSS w3 w1.drew.heap.size w3.heap.size (.slice (some ⟨g, 0, none⟩) k k) L) (hb : Below w1.drew.heap.size w1.drew w3) (hC : C ≤ 1000) (hz : zb = w3.heap.size := by rfl) :
    TabIn w1 ((w3.alloc (.cells (madeCells #[Value.int .i64 0] C) 3)).alloc (.cells #[(.slice (some ⟨zb, 0, none⟩) C C)] 40)) g k C zb (w3.heap.size + 1) L := by
  subst hz
  have h1 : w1.heap.size ≤ w3.heap.size := hb.size
  have a1 := (Below.refl w3.heap.size w3).alloc (Nat.le_refl _) (.cells (madeCells #[Value.int .i64 0] C) 3)
  have e1 : (w3.alloc (.cells (madeCells #[Value.int .i64 0] C) 3)).heap.size = w3.heap.size + 1 := by rw [World.size_alloc]
  have a2 := a1.alloc a1.size (.cells #[(.slice (some ⟨w3.heap.size, 0, none⟩) C C)] 40)
  refine ⟨w1.heap.size, w3.heap.size, Nat.le_refl _, ho.same (Below.keeps a2 (Nat.le_refl _)), a2.size, World.ownsRow.alloc (zeros_new w3 w1.heap.size C h1 hC) _, .inr (Nat.le_refl _), ?_, (show Below w1.heap.size w1 w3 from (Below.refl w1.heap.size w1).drew.trans hb).trans (a2.mono h1)⟩
  have h := cell_new1 (w3.alloc (.cells (madeCells #[Value.int .i64 0] C) 3)) (.slice (some ⟨w3.heap.size, 0, none⟩) C C) 40
  rw [e1] at h
  exact h
theorem tbaB {w1 w3 : World} {g k C : Nat} {L : List (List Int)} (ho : OwnSS w3 (w1.alloc (.cells (madeCells #[Value.int .i64 0] C) 3)).drew.heap.size w3.heap.size (.slice (some ⟨g, 0, none⟩) k k) L) (hb : Below (w1.alloc (.cells (madeCells #[Value.int .i64 0] C) 3)).drew.heap.size (w1.alloc (.cells (madeCells #[Value.int .i64 0] C) 3)).drew w3) (hC : C ≤ 1000) :
    TabIn w1 (w3.alloc (.cells #[(.slice (some ⟨w1.heap.size, 0, none⟩) C C)] 40)) g k C w1.heap.size w3.heap.size L := by
  have e1 : (w1.alloc (.cells (madeCells #[Value.int .i64 0] C) 3)).drew.heap.size = w1.heap.size + 1 := World.size_alloc ..
  have a1 := ((Below.refl w1.heap.size w1).alloc (Nat.le_refl _) (.cells (madeCells #[Value.int .i64 0] C) 3)).drew
  have a2 := (Below.refl w3.heap.size w3).alloc (Nat.le_refl _) (.cells #[(.slice (some ⟨w1.heap.size, 0, none⟩) C C)] 40)
  have hz : OwnI (w1.alloc (.cells (madeCells #[Value.int .i64 0] C) 3)).drew w1.heap.size (.slice (some ⟨w1.heap.size, 0, none⟩) C C) (List.replicate C 0) := zeros_new w1 w1.heap.size C (Nat.le_refl _) hC
  have hz3 := hz.kept hb (fun g hg => (hz.lt g hg).2)
  refine ⟨w1.heap.size + 1, w3.heap.size, Nat.le_succ _, by rw [← e1]; exact ho.same (Below.keeps a2 (Nat.le_refl _)), a2.size, World.ownsRow.alloc hz3 _, .inl (Nat.lt_succ_self _), cell_new1 _ _ _, (a1.trans (hb.mono a1.size)).trans (a2.mono (Nat.le_trans a1.size hb.size))⟩
theorem tbaC {w1 w3 : World} {g k C : Nat} {L : List (List Int)} (ho : OwnSS w3 ((w1.alloc (.cells (madeCells #[Value.int .i64 0] C) 3)).alloc (.cells #[(.slice (some ⟨w1.heap.size, 0, none⟩) C C)] 40)).drew.heap.size w3.heap.size (.slice (some ⟨g, 0, none⟩) k k) L) (hb : Below ((w1.alloc (.cells (madeCells #[Value.int .i64 0] C) 3)).alloc (.cells #[(.slice (some ⟨w1.heap.size, 0, none⟩) C C)] 40)).drew.heap.size ((w1.alloc (.cells (madeCells #[Value.int .i64 0] C) 3)).alloc (.cells #[(.slice (some ⟨w1.heap.size, 0, none⟩) C C)] 40)).drew w3) (hC : C ≤ 1000) :
    TabIn w1 w3 g k C w1.heap.size (w1.heap.size + 1) L := by
  have e1 : (w1.alloc (.cells (madeCells #[Value.int .i64 0] C) 3)).heap.size = w1.heap.size + 1 := World.size_alloc ..
  have e2 : ((w1.alloc (.cells (madeCells #[Value.int .i64 0] C) 3)).alloc (.cells #[(.slice (some ⟨w1.heap.size, 0, none⟩) C C)] 40)).drew.heap.size = w1.heap.size + 2 := (World.size_alloc ..).trans (by rw [e1])
  have a1 := (Below.refl w1.heap.size w1).alloc (Nat.le_refl _) (.cells (madeCells #[Value.int .i64 0] C) 3)
  have a2 := (a1.alloc a1.size (.cells #[(.slice (some ⟨w1.heap.size, 0, none⟩) C C)] 40)).drew
  have hz : OwnI ((w1.alloc (.cells (madeCells #[Value.int .i64 0] C) 3)).alloc (.cells #[(.slice (some ⟨w1.heap.size, 0, none⟩) C C)] 40)).drew w1.heap.size (.slice (some ⟨w1.heap.size, 0, none⟩) C C) (List.replicate C 0) := World.ownsRow.alloc (zeros_new w1 w1.heap.size C (Nat.le_refl _) hC) _
  have hz3 := hz.kept hb (fun g hg => (hz.lt g hg).2)
  have hc := cell_new1 (w1.alloc (.cells (madeCells #[Value.int .i64 0] C) 3)) (.slice (some ⟨w1.heap.size, 0, none⟩) C C) 40
  rw [e1] at hc
  have hc2 : ((w1.alloc (.cells (madeCells #[Value.int .i64 0] C) 3)).alloc (.cells #[(.slice (some ⟨w1.heap.size, 0, none⟩) C C)] 40)).drew.cell? ⟨w1.heap.size + 1, 0, none⟩ = some (.slice (some ⟨w1.heap.size, 0, none⟩) C C) := hc
  refine ⟨w1.heap.size + 2, w3.heap.size, by omega, by rw [← e2]; exact ho, Nat.le_refl _, hz3, .inl (by omega), keep_in hc2 hb, a2.trans (hb.mono a2.size)⟩
theorem tab_insert {w1 y : World} {g k C zb vb : Nat} {L : List (List Int)} (h : TabIn w1 y g k C zb vb L) (hk : L.length = k) (hk40 : k ≤ 40) :
    Calls Tryz.prog 63 #[.slice (some ⟨g, 0, none⟩) k k, .int .i64 0, .slice (some ⟨vb, 0, none⟩) 1 1] y fun e w' => ∃ v', e = .returned v' ∧ OwnSS w' w1.heap.size w'.heap.size v' (List.replicate C 0 :: L) ∧ Below w1.heap.size w1 w' := by
  subst hk
  obtain ⟨D, E, hD, hO, hE, hz, hd, hv, hb⟩ := h
  have hO2 := hO.base hD (Nat.le_refl E)
  obtain ⟨V, o1, o2, o3, o4⟩ := hO
  have hrb : ∀ i, i < L.length → ∀ q, (V i).ownBlock = some q → D ≤ q ∧ q < E := fun i hi q hq => ⟨((o3 i hi).1.lt q hq).1, (o3 i hi).2 q hq⟩
  have b1 : y.ownsRow w1.heap.size 40 1 (.slice (some ⟨g, 0, none⟩) L.length L.length) L.length ((List.range L.length).map V) := by
    refine ⟨o1.1, ?_⟩
    rcases o1.2 with h | ⟨g', cap, cur, e, hB, rest⟩
    · exact .inl h
    · exact .inr ⟨g', cap, cur, e, Nat.le_trans hD hB, rest⟩
  have hone : ∀ v ∈ (List.range L.length).map V, v.oneCell' = true := fun v hv => by
    obtain ⟨i, hi, rfl⟩ := List.mem_map.1 hv
    obtain ⟨a, c, e⟩ := row_form12 (o3 i (List.mem_range.1 hi)).1
    rw [e]; rfl
  refine (insert0_any w1.heap.size g L.length ((List.range L.length).map V) (.slice (some ⟨zb, 0, none⟩) C C) vb y hb.size hk40 hone rfl b1 hv).mono ?_
  rintro e w' ⟨v', rfl, ho, hg⟩
  refine ⟨v', rfl, OwnSS.consV (C := E) b1 (fun i hi => ⟨(o3 i hi).1.base hD, (o3 i hi).2⟩) o4 hz (fun q hq => Nat.lt_of_lt_of_le (hz.lt q hq).2 hg.size) (fun i hi q hq hq2 => ?_) ho hg (Nat.le_trans hE hg.size) (fun q hq => (World.ownsRow.lt ho q hq).2), hb.grown hg hb.size (fun q hq => ?_)⟩
  · have h1 := hrb i hi q hq2
    have h2 : zb = q := by simpa [Value.ownBlock] using hq
    omega
  · cases hq
    exact (World.ownsRow.lt b1 g rfl).1
theorem tab_end {w x : World} {N : Nat} {v : Value} {L : List (List Int)} (ho : OwnSS x N x.heap.size v L) (hb : Below w.heap.size w x) (hN : w.heap.size < N) (c : Int) :
    OwnSS ((x.setCell ⟨w.heap.size, 0, none⟩ (.int .i64 c)).setCell ⟨w.heap.size, 1, none⟩ v) w.heap.size ((x.setCell ⟨w.heap.size, 0, none⟩ (.int .i64 c)).setCell ⟨w.heap.size, 1, none⟩ v).heap.size v L ∧ Below w.heap.size w ((x.setCell ⟨w.heap.size, 0, none⟩ (.int .i64 c)).setCell ⟨w.heap.size, 1, none⟩ v) := by
  have h3 := ho.same ((Same.refl N x.heap.size x).setCell (p := ⟨w.heap.size, 0, none⟩) (.inl hN) (.int .i64 c))
  have h4 := h3.same ((Same.refl N x.heap.size _).setCell (p := ⟨w.heap.size, 1, none⟩) (.inl hN) v)
  exact ⟨h4.base (by omega) (by simp), (hb.setCell (p := ⟨w.heap.size, 0, none⟩) (Nat.le_refl _) (.int .i64 c)).setCell (p := ⟨w.heap.size, 1, none⟩) (Nat.le_refl _) v⟩
section
set_option maxRecDepth 20000
set_option maxHeartbeats 3200000
theorem rowsI_any (C : Nat) (hC : C ≤ 5) (v : Value) (cs : List Int) (hcs : ∀ x ∈ cs, ∃ X : Nat, x = (X : Int) ∧ X < 32) (w : World) (hr : ReadI w v cs) (hl : cs.length ≤ 32) :
    Calls Tryz.prog 64 #[v, .int .i64 (C : Int)] w (RetR (rowsA C (zpN (fun i => (cs.getD i 0).toNat) cs.length)) w) := by
  obtain ⟨i0, hi, hy0, hy1, hy2⟩ := info_parts info3j
  have HI : Hid (_ ∧ _ ∧ _ ∧ _) := Lib.hid ⟨hi, hy0, hy1, hy2⟩
  obtain ⟨j0, hj, hz0, hz1, hz2⟩ := info_parts infoSj
  have HJ : Hid (_ ∧ _ ∧ _ ∧ _) := Lib.hid ⟨hj, hz0, hz1, hz2⟩
  clear hi hy0 hy1 hy2 hj hz0 hz1 hz2
  have HHAS := Lib.hid (fun X k w' (hk : k ≤ 62) => has_any X k hk w')
  have HLR := Lib.hid (fun k => rows_len C k (fun i => (cs.getD i 0).toNat))
  have HST := Lib.hid (fun S k (v : Int) (h : k < C) => rowZ_step S C k v h)
  have HSK := Lib.hid (fun S k (v : Int) (h : k < C) (hb : bitB S k = true) => rowZ_skip S C k v h hb)
  have HCS : Hid (∀ i (h : i < cs.length), ∃ X : Nat, cs[i] = (X : Int) ∧ X < 32 ∧ (cs.getD i 0).toNat = X) := Lib.hid (fun i h => by
    obtain ⟨X, e, hX⟩ := hcs _ (List.getElem_mem h)
    refine ⟨X, e, hX, ?_⟩
    rw [List.getD_eq_getElem?_getD, List.getElem?_eq_getElem h]
    show (cs[i]).toNat = X
    rw [e]; rfl)
  obtain ⟨q, hq⟩ : ∃ q, q = fun i => (cs.getD i 0).toNat := ⟨_, rfl⟩
  rw [← hq] at HLR ⊢
  have HQ : Hid (∀ i (h : i < cs.length), ∃ X : Nat, cs[i] = (X : Int) ∧ X < 32 ∧ q i = X) := Lib.hid (fun i h => by rw [hq]; exact HCS.out i h)
  obtain ⟨a, cap, rfl, ha⟩ := hr
  have HA := Lib.hid ha
  clear ha hcs HCS hq
  go_enter Tryz.func64, Tryz.ntmps64
  go_wp2_with (at_make; refine wpList_make_own _ rfl _ _ 27 rfl w.heap.size 40 j0 (.slice none 0 0) 1 Tryz.underlying27 HJ.out.1 HJ.out.2.1 HJ.out.2.2.1 .i64 .i64 _ cs.length rfl rfl rfl (by rw [HJ.out.2.2.2]; omega) (by unfold maxLen; omega) (Nat.le_refl _) ?_; intro w0 hown0 hgrow0)
  have hb0 := (Below.refl w.heap.size w).grown hgrow0 (Nat.le_refl _) (by simp)
  have HS0 : Hid (w0.ownsRow w.heap.size 40 1 (.slice (some ⟨w.heap.size, 0, none⟩) 0 cs.length) 0 []) := Lib.hid hown0
  clear hown0 hgrow0
  have HSS0 := Lib.hid (rows_start HS0.out)
  have HB0 := Lib.hid hb0
  clear HS0 hb0
  go_loopw [5, 15] (fun ov iv wr => ∃ k : Nat, k ≤ cs.length ∧ ov = .slice (some ⟨w.heap.size, 0, none⟩) k cs.length ∧ iv = .int .i64 (k : Int) ∧ Hid (OwnSS wr w.heap.size wr.heap.size (.slice (some ⟨w.heap.size, 0, none⟩) k cs.length) (rowsA C (zpN q k))) ∧ Hid (Below w.heap.size w wr)) (fun _ iv _ => cs.length - (intOf iv).toNat)
  case atStart => exact ⟨0, by omega, rfl, rfl, HSS0, HB0⟩
  case round =>
    clear HSS0 HB0
    obtain ⟨k, hk, rfl, rfl, HO, HB⟩ := hrel
    obtain ⟨w3, hw⟩ : ∃ w', w' = wr := ⟨_, rfl⟩
    rw [← hw] at HO HB ⊢
    clear hw
    by_cases hlt : k < cs.length
    · obtain ⟨x0, rfl, hx⟩ := HA.out k hlt
      obtain ⟨S, hS, hS32, hqS⟩ := HQ.out k hlt
      rw [hS] at hx
      replace hx := keep_in hx HB.out
      have z0 : (0 : Int) ≤ (k : Int) := by omega
      have z1 : (k : Int) < (cs.length : Int) := by omega
      have HNX : Hid (rowsA C (zpN q (k + 1)) = rowsA C (zpN q k) ++ [rowA S ((k : Int) + 1) C]) := Lib.hid (by rw [rows_snoc C k q, hqS])
      clear hS hqS
      go_wp2_with (at_make; refine wpList_make_full _ rfl _ _ 40 rfl w3.heap.size 3 i0 (.int .i64 0) 1 Tryz.underlying40 HI.out.1 HI.out.2.1 HI.out.2.2.1 .i64 .i64 _ _ C rfl rfl rfl rfl (by rw [HI.out.2.2.2]; omega) (by unfold maxLen; omega) (Nat.le_refl _) ?_; intro w4 hown4 hgrow4)
      have HO4 : Hid (OwnI w4 w3.heap.size (.slice (some ⟨w3.heap.size, 0, none⟩) C C) (rowA S ((k : Int) + 1) 0 ++ List.replicate (C - 0) 0)) := Lib.hid (OwnI.full hown4)
      have HB4 := Lib.hid ((Below.refl w3.heap.size w3).grown hgrow4 (Nat.le_refl _) (by simp))
      clear hown4 hgrow4 hx
      go_loopw [23] (fun jv wr => ∃ j : Nat, j ≤ C ∧ jv = .int .i64 (j : Int) ∧ Hid (OwnI wr w3.heap.size (.slice (some ⟨w3.heap.size, 0, none⟩) C C) (rowA S ((k : Int) + 1) j ++ List.replicate (C - j) 0)) ∧ Hid (Below w3.heap.size w3 wr)) (fun jv _ => C - (intOf jv).toNat)
      case atStart => exact ⟨0, by omega, rfl, HO4, HB4⟩
      case round =>
        clear HO4 HB4
        obtain ⟨j, hj, rfl, HOj, HBj⟩ := hrel
        obtain ⟨w5, hw⟩ : ∃ w', w' = wr := ⟨_, rfl⟩
        rw [← hw] at HOj HBj ⊢
        clear hw
        by_cases hlj : j < C
        · have y0 : (0 : Int) ≤ (j : Int) := by omega
          have y1 : (j : Int) < (C : Int) := by omega
          have hcell := HOj.out.cell j (by rw [List.length_append, rowA_len, List.length_replicate]; omega)
          have hfz := HOj.out.frozen j
          obtain ⟨c0, hc0⟩ : ∃ c0, c0 = (rowA S ((k : Int) + 1) j ++ List.replicate (C - j) 0)[j]'(by rw [List.length_append, rowA_len, List.length_replicate]; omega) := ⟨_, rfl⟩
          rw [← hc0] at hcell
          clear hc0
          cases hb : bitB S j with
          | true =>
            have HH := Lib.hid (HHAS.out S j w5 (by omega))
            rw [hb] at HH
            have HO6 : Hid (OwnI w5 w3.heap.size (.slice (some ⟨w3.heap.size, 0, none⟩) C C) (rowA S ((k : Int) + 1) (j + 1) ++ List.replicate (C - (j + 1)) 0)) := Lib.hid (by rw [← HSK.out S j _ hlj hb]; exact HOj.out)
            clear hb
            go_wp2_with fail
            refine HH.out.mono ?_
            rintro e w6 ⟨rfl, rfl⟩
            go_wp2_with fail
            go_roundw
            case rel => exact ⟨j + 1, by omega, by go_num, HO6, HBj⟩
            case measure => simp [intOf]; omega
          | false =>
            have HH := Lib.hid (HHAS.out S j w5 (by omega))
            rw [hb] at HH
            have HO6 : Hid (OwnI (w5.setCell ⟨w3.heap.size, j, none⟩ (.int .i64 ((k : Int) + 1))) w3.heap.size (.slice (some ⟨w3.heap.size, 0, none⟩) C C) (rowA S ((k : Int) + 1) (j + 1) ++ List.replicate (C - (j + 1)) 0)) := Lib.hid (by
              have h1 := (HOj.out.store j ((k : Int) + 1)).1
              have h2 := HST.out S j ((k : Int) + 1) hlj
              rw [hb, if_neg (by decide)] at h2
              rw [h2] at h1
              exact h1)
            have HB6 : Hid (Below w3.heap.size w3 (w5.setCell ⟨w3.heap.size, j, none⟩ (.int .i64 ((k : Int) + 1)))) := Lib.hid (HBj.out.setCell (p := ⟨w3.heap.size, j, none⟩) (Nat.le_refl _) _)
            clear hb
            go_wp2_with fail
            refine HH.out.mono ?_
            rintro e w6 ⟨rfl, rfl⟩
            go_wp2_with fail
            go_roundw
            case rel => exact ⟨j + 1, by omega, by go_num, HO6, HB6⟩
            case measure => simp [intOf]; omega
        · obtain rfl : j = C := by omega
          have hoj := HOj.out
          rw [Nat.sub_self, List.replicate_zero, List.append_nil] at hoj
          obtain ⟨V, HO1, HCL⟩ := rows_close (HLR.out k) HO.out HB.out HBj.out hoj
          rw [← HNX.out] at HCL
          have HSZ := Lib.hid (Nat.le_trans HB.out.size HBj.out.size)
          clear hoj
          go_wp2_with (at_builtin; refine wpList_append_here _ rfl _ _ 27 rfl w.heap.size 40 j0 (.slice none 0 0) 1 24 Tryz.underlying27 HJ.out.1 HJ.out.2.1 HJ.out.2.2.1 HJ.out.2.2.2 rfl (by decide) w.heap.size k cs.length _ rfl HO1.out ⟨w5.heap.size, 0, none⟩ 1 1 [.slice (some ⟨w3.heap.size, 0, none⟩) j j] rfl rfl (cell_one_new _ _ _) (one_slice _ _ _) (by omega) (by unfold maxLen; omega) (by omega) (by have := HSZ.out; rw [World.size_alloc]; omega) ?_; intro w6 hown6 hgrow6; have HC6 := Lib.hid (HCL.out w6 hgrow6 hown6); clear hown6 hgrow6)
          go_roundw
          case rel => exact ⟨k + 1, by omega, rfl, by go_num, Lib.hid HC6.out.1, Lib.hid HC6.out.2⟩
          case measure => simp [intOf]; omega
    · obtain rfl : k = cs.length := by omega
      go_wp2_with fail
      go_ret
      refine ⟨w.heap.size, by rw [HLR.out]; rfl, ?_, HB.out⟩
      rw [HLR.out]
      exact HO.out
theorem tableI_any (C : Nat) (hC : C ≤ 5) (v : Value) (cs : List Int) (hcs : ∀ x ∈ cs, ∃ X : Nat, x = (X : Int) ∧ X < 32) (w : World) (hr : ReadI w v cs) (hl : cs.length ≤ 32) :
    Calls Tryz.prog 24 #[v, .int .i64 (C : Int)] w (RetT12 (C : Int) (List.replicate C 0 :: rowsA C (zpN (fun i => (cs.getD i 0).toNat) cs.length)) w) := by
  have HRW := Lib.hid (fun w' (hb : Below w.heap.size w w') => rowsI_any C hC v cs hcs w' (hr.kept hb) hl)
  have HLR := rows_len C cs.length (fun i => (cs.getD i 0).toNat)
  obtain ⟨L, hL⟩ : ∃ L, L = rowsA C (zpN (fun i => (cs.getD i 0).toNat) cs.length) := ⟨_, rfl⟩
  rw [← hL] at HRW HLR ⊢
  have HTI := Lib.hid (fun w1 y g zb vb (h : TabIn w1 y g L.length C zb vb L) => tab_insert h rfl (by omega))
  obtain ⟨a, cap, rfl, ha⟩ := hr
  clear ha hcs hL HLR
  have hmk := make_zeros C (by omega)
  have hCk : C ≤ 1000 := by omega
  have hb1 := (Below.refl w.heap.size w).alloc (Nat.le_refl _) (.cells #[.int .i64 0, .slice none 0 0] 29)
  have HT1 := Lib.hid (bxt_new w 0 (.slice none 0 0))
  have HB1 := Lib.hid hb1
  have HZ1 : Hid ((w.alloc (.cells #[.int .i64 0, .slice none 0 0] 29)).heap.size = w.heap.size + 1) := Lib.hid (by rw [World.size_alloc])
  clear hb1
  go_enter Tryz.func24, Tryz.ntmps24
  go_upto_region 1 with fail
  obtain ⟨w1, hw1⟩ : ∃ w1, w1 = w.alloc (.cells #[.int .i64 0, .slice none 0 0] 29) := ⟨_, rfl⟩
  rw [← hw1] at HT1 HB1 HZ1 ⊢
  clear hw1
  refine wp_region_noPanic ?_
  refine wp_region_held_drew (S := (fun _ => True)) (by kernel_rfl) ?_ (fun hHeld => ?_)
  · ((try dsimp only); (try exact trivial))
  refine wpAnyH_take (i := 0) (v := ?_) rfl (by kernel_rfl) (by kernel_rfl) (by kernel_rfl) (fun _ _ _ h => h) (Or.inl ⟨by rfl, ?_⟩) (by assumption) ?_
  rotate_left
  · (intro w hSw; (try dsimp only at hSw); go_simp; (try with_reducible rfl))
  (try simp only [Act.put, List.getElem_toArray, List.getElem_cons_zero, List.setIfInBounds_toArray, List.set_cons_zero, List.set_cons_succ])
  refine wpAnyH_take (i := 1) (v := ?_) rfl (by kernel_rfl) (by kernel_rfl) (by kernel_rfl) (fun _ _ _ h => h) (Or.inl ⟨by rfl, ?_⟩) (by assumption) ?_
  rotate_left
  · (intro w hSw; (try dsimp only at hSw); go_simp; (try with_reducible rfl))
  (try simp only [Act.put, List.getElem_toArray, List.getElem_cons_succ, List.getElem_cons_zero, List.setIfInBounds_toArray, List.set_cons_zero, List.set_cons_succ])
  refine wpAnyH_take (i := 2) (v := ?_) rfl (by kernel_rfl) (by kernel_rfl) (by kernel_rfl) (fun _ _ _ h => h) (Or.inl ⟨by rfl, ?_⟩) (by assumption) ?_
  rotate_left
  · (intro w hSw; (try dsimp only at hSw); go_simp; (try with_reducible rfl))
  (try simp only [Act.put, List.getElem_toArray, List.getElem_cons_succ, List.getElem_cons_zero, List.setIfInBounds_toArray, List.set_cons_zero, List.set_cons_succ])
  refine wpAnyH_take (i := 4) (v := ?_) rfl (by kernel_rfl) (by kernel_rfl) (by kernel_rfl) (fun _ _ _ h => h) (Or.inl ⟨by rfl, ?_⟩) (by assumption) ?_
  rotate_left
  · (intro w hSw; (try dsimp only at hSw); go_simp; (try with_reducible rfl))
  (try simp only [Act.put, List.getElem_toArray, List.getElem_cons_succ, List.getElem_cons_zero, List.setIfInBounds_toArray, List.set_cons_zero, List.set_cons_succ])
  refine wpAnyH_ready (rs := [3, 5]) (by kernel_rfl) (by simp) (AllReadyH.cons rfl (fun K hK => ?_) (AllReadyH.cons rfl (fun K hK => ?_) AllReadyH.nil))
  · (first | go_at_call 64 | (go_simp; go_at_call 64))
    refine (HRW.out _ (HB1.out.trans ((Below.refl w1.heap.size w1).drew.mono HB1.out.size))).mono ?_
    rintro e w91 ⟨g, rfl, o91, b91⟩
    (try (go_wp2_with fail))
    refine hK.out _ _ trivial (fun hHeld => ?_)
    clear hK K hHeld
    (try simp only [Act.put, List.getElem_toArray, List.getElem_cons_succ, List.getElem_cons_zero, List.setIfInBounds_toArray, List.set_cons_zero, List.set_cons_succ])
    refine wpAnyH_ready (rs := [5]) (by kernel_rfl) (by simp) (AllReadyH.cons rfl (fun K hK => ?_) AllReadyH.nil)
    · go_simp
      (try (go_wp2_with fail))
      refine hK.out _ _ trivial (fun hHeld => ?_)
      clear hK K hHeld
      (try simp only [Act.put, List.getElem_toArray, List.getElem_cons_succ, List.getElem_cons_zero, List.setIfInBounds_toArray, List.set_cons_zero, List.set_cons_succ])
      refine wpAnyH_ready (rs := [6]) (by kernel_rfl) (by simp) (AllReadyH.cons rfl (fun K hK => ?_) AllReadyH.nil)
      · go_simp
        (try (go_wp2_with fail))
        refine hK.out _ _ trivial (fun hHeld => ?_)
        clear hK K hHeld
        (try simp only [Act.put, List.getElem_toArray, List.getElem_cons_succ, List.getElem_cons_zero, List.setIfInBounds_toArray, List.set_cons_zero, List.set_cons_succ])
        refine wpAnyH_ready (rs := [7]) (by kernel_rfl) (by simp) (AllReadyH.cons rfl (fun K hK => ?_) AllReadyH.nil)
        · have HTB := Lib.hid (tbaA (zb := w91.heap.size) o91 b91 hCk)
          (first | go_at_call 63 | (go_simp; go_at_call 63))
          refine (HTI.out w1 _ g (w91.heap.size) (w91.heap.size + 1) HTB.out).mono ?_
          rintro e w92 ⟨v92, rfl, o92, b92⟩
          have HT2 := Lib.hid (BxT.under HT1.out b92 (by have := HZ1.out; omega))
          obtain ⟨p9, k9, n9, rfl⟩ := ownSS_form o92
          have HO92 := Lib.hid o92
          have HB92 := Lib.hid b92
          clear o92 b92
          (try (go_wp2_with fail))
          refine hK.out _ _ trivial (fun hHeld => ?_)
          clear hK K hHeld
          (try simp only [Act.put, List.getElem_toArray, List.getElem_cons_succ, List.getElem_cons_zero, List.setIfInBounds_toArray, List.set_cons_zero, List.set_cons_succ])
          have d0 := HT2.out.c0
          have d1 := HT2.out.c1
          have f0 := HT2.out.f0
          have f1 := HT2.out.f1
          have hHeld : (fun _ : World => True) w92 := trivial
          refine wpAnyH_take (i := 8) (v := ?_) rfl (by kernel_rfl) (by kernel_rfl) (by kernel_rfl) (fun _ _ _ h => h) (Or.inl ⟨by rfl, ?_⟩) (by assumption) ?_
          rotate_left
          · (intro w hSw; (try dsimp only at hSw); go_simp; (try with_reducible rfl))
          (try simp only [Act.put, List.getElem_toArray, List.getElem_cons_succ, List.getElem_cons_zero, List.setIfInBounds_toArray, List.set_cons_zero, List.set_cons_succ])
          refine wpAnyH_ready (rs := [9]) (by kernel_rfl) (by simp) (AllReadyH.cons rfl (fun K hK => ?_) AllReadyH.nil)
          go_simp
          refine hK.out _ _ trivial (fun hHeld => ?_)
          clear hK K
          (try simp only [Act.put, List.getElem_toArray, List.getElem_cons_succ, List.getElem_cons_zero, List.setIfInBounds_toArray, List.set_cons_zero, List.set_cons_succ])
          refine wpAnyH_done (by kernel_rfl) ?_ _
          refine NoPanic.normal ?_
          have hf := HT2.out.put (c' := (C : Int)) (v := .slice p9 n9 k9)
          have HR := Lib.hid (And.intro hf.c0 hf.c1)
          have HOE := Lib.hid (tab_end HO92.out (HB1.out.trans (HB92.out.mono HB1.out.size)) (show w.heap.size < w1.heap.size by have := HZ1.out; omega) (C : Int))
          clear hf d0 d1 f0 f1 hHeld
          go_wp2_with fail
          exact bodyPost_ret (v := .agg #[.int .i64 (C : Int), .slice p9 n9 k9]) (by simp [results, Tryz.results24, go_sem, HR.out.1, HR.out.2]) rfl ⟨_, rfl, HOE.out.1, HOE.out.2⟩
  · go_simp
    (try (go_wp2_with fail))
    refine hK.out _ _ trivial (fun hHeld => ?_)
    clear hK K hHeld
    (try simp only [Act.put, List.getElem_toArray, List.getElem_cons_succ, List.getElem_cons_zero, List.setIfInBounds_toArray, List.set_cons_zero, List.set_cons_succ])
    refine wpAnyH_ready (rs := [3, 6]) (by kernel_rfl) (by simp) (AllReadyH.cons rfl (fun K hK => ?_) (AllReadyH.cons rfl (fun K hK => ?_) AllReadyH.nil))
    · (first | go_at_call 64 | (go_simp; go_at_call 64))
      refine (HRW.out _ ((HB1.out.alloc HB1.out.size (.cells (madeCells #[Value.int .i64 0] C) 3)).drew)).mono ?_
      rintro e w91 ⟨g, rfl, o91, b91⟩
      (try (go_wp2_with fail))
      refine hK.out _ _ trivial (fun hHeld => ?_)
      clear hK K hHeld
      (try simp only [Act.put, List.getElem_toArray, List.getElem_cons_succ, List.getElem_cons_zero, List.setIfInBounds_toArray, List.set_cons_zero, List.set_cons_succ])
      refine wpAnyH_ready (rs := [6]) (by kernel_rfl) (by simp) (AllReadyH.cons rfl (fun K hK => ?_) AllReadyH.nil)
      · go_simp
        (try (go_wp2_with fail))
        refine hK.out _ _ trivial (fun hHeld => ?_)
        clear hK K hHeld
        (try simp only [Act.put, List.getElem_toArray, List.getElem_cons_succ, List.getElem_cons_zero, List.setIfInBounds_toArray, List.set_cons_zero, List.set_cons_succ])
        refine wpAnyH_ready (rs := [7]) (by kernel_rfl) (by simp) (AllReadyH.cons rfl (fun K hK => ?_) AllReadyH.nil)
        · have HTB := Lib.hid (tbaB o91 b91 hCk)
          (first | go_at_call 63 | (go_simp; go_at_call 63))
          refine (HTI.out w1 _ g (w1.heap.size) (w91.heap.size) HTB.out).mono ?_
          rintro e w92 ⟨v92, rfl, o92, b92⟩
          have HT2 := Lib.hid (BxT.under HT1.out b92 (by have := HZ1.out; omega))
          obtain ⟨p9, k9, n9, rfl⟩ := ownSS_form o92
          have HO92 := Lib.hid o92
          have HB92 := Lib.hid b92
          clear o92 b92
          (try (go_wp2_with fail))
          refine hK.out _ _ trivial (fun hHeld => ?_)
          clear hK K hHeld
          (try simp only [Act.put, List.getElem_toArray, List.getElem_cons_succ, List.getElem_cons_zero, List.setIfInBounds_toArray, List.set_cons_zero, List.set_cons_succ])
          have d0 := HT2.out.c0
          have d1 := HT2.out.c1
          have f0 := HT2.out.f0
          have f1 := HT2.out.f1
          have hHeld : (fun _ : World => True) w92 := trivial
          refine wpAnyH_take (i := 8) (v := ?_) rfl (by kernel_rfl) (by kernel_rfl) (by kernel_rfl) (fun _ _ _ h => h) (Or.inl ⟨by rfl, ?_⟩) (by assumption) ?_
          rotate_left
          · (intro w hSw; (try dsimp only at hSw); go_simp; (try with_reducible rfl))
          (try simp only [Act.put, List.getElem_toArray, List.getElem_cons_succ, List.getElem_cons_zero, List.setIfInBounds_toArray, List.set_cons_zero, List.set_cons_succ])
          refine wpAnyH_ready (rs := [9]) (by kernel_rfl) (by simp) (AllReadyH.cons rfl (fun K hK => ?_) AllReadyH.nil)
          go_simp
          refine hK.out _ _ trivial (fun hHeld => ?_)
          clear hK K
          (try simp only [Act.put, List.getElem_toArray, List.getElem_cons_succ, List.getElem_cons_zero, List.setIfInBounds_toArray, List.set_cons_zero, List.set_cons_succ])
          refine wpAnyH_done (by kernel_rfl) ?_ _
          refine NoPanic.normal ?_
          have hf := HT2.out.put (c' := (C : Int)) (v := .slice p9 n9 k9)
          have HR := Lib.hid (And.intro hf.c0 hf.c1)
          have HOE := Lib.hid (tab_end HO92.out (HB1.out.trans (HB92.out.mono HB1.out.size)) (show w.heap.size < w1.heap.size by have := HZ1.out; omega) (C : Int))
          clear hf d0 d1 f0 f1 hHeld
          go_wp2_with fail
          exact bodyPost_ret (v := .agg #[.int .i64 (C : Int), .slice p9 n9 k9]) (by simp [results, Tryz.results24, go_sem, HR.out.1, HR.out.2]) rfl ⟨_, rfl, HOE.out.1, HOE.out.2⟩
    · go_simp
      (try (go_wp2_with fail))
      refine hK.out _ _ trivial (fun hHeld => ?_)
      clear hK K hHeld
      (try simp only [Act.put, List.getElem_toArray, List.getElem_cons_succ, List.getElem_cons_zero, List.setIfInBounds_toArray, List.set_cons_zero, List.set_cons_succ])
      refine wpAnyH_ready (rs := [3]) (by kernel_rfl) (by simp) (AllReadyH.cons rfl (fun K hK => ?_) AllReadyH.nil)
      · (first | go_at_call 64 | (go_simp; go_at_call 64))
        refine (HRW.out _ (((HB1.out.alloc HB1.out.size (.cells (madeCells #[Value.int .i64 0] C) 3)).alloc (by rw [World.size_alloc]; have := HB1.out.size; omega) (.cells #[(.slice (some ⟨w1.heap.size, 0, none⟩) C C)] 40)).drew)).mono ?_
        rintro e w91 ⟨g, rfl, o91, b91⟩
        (try (go_wp2_with fail))
        refine hK.out _ _ trivial (fun hHeld => ?_)
        clear hK K hHeld
        (try simp only [Act.put, List.getElem_toArray, List.getElem_cons_succ, List.getElem_cons_zero, List.setIfInBounds_toArray, List.set_cons_zero, List.set_cons_succ])
        refine wpAnyH_ready (rs := [7]) (by kernel_rfl) (by simp) (AllReadyH.cons rfl (fun K hK => ?_) AllReadyH.nil)
        · have HTB := Lib.hid (tbaC o91 b91 hCk)
          (first | go_at_call 63 | (go_simp; go_at_call 63))
          refine (HTI.out w1 _ g (w1.heap.size) (w1.heap.size + 1) HTB.out).mono ?_
          rintro e w92 ⟨v92, rfl, o92, b92⟩
          have HT2 := Lib.hid (BxT.under HT1.out b92 (by have := HZ1.out; omega))
          obtain ⟨p9, k9, n9, rfl⟩ := ownSS_form o92
          have HO92 := Lib.hid o92
          have HB92 := Lib.hid b92
          clear o92 b92
          (try (go_wp2_with fail))
          refine hK.out _ _ trivial (fun hHeld => ?_)
          clear hK K hHeld
          (try simp only [Act.put, List.getElem_toArray, List.getElem_cons_succ, List.getElem_cons_zero, List.setIfInBounds_toArray, List.set_cons_zero, List.set_cons_succ])
          have d0 := HT2.out.c0
          have d1 := HT2.out.c1
          have f0 := HT2.out.f0
          have f1 := HT2.out.f1
          have hHeld : (fun _ : World => True) w92 := trivial
          refine wpAnyH_take (i := 8) (v := ?_) rfl (by kernel_rfl) (by kernel_rfl) (by kernel_rfl) (fun _ _ _ h => h) (Or.inl ⟨by rfl, ?_⟩) (by assumption) ?_
          rotate_left
          · (intro w hSw; (try dsimp only at hSw); go_simp; (try with_reducible rfl))
          (try simp only [Act.put, List.getElem_toArray, List.getElem_cons_succ, List.getElem_cons_zero, List.setIfInBounds_toArray, List.set_cons_zero, List.set_cons_succ])
          refine wpAnyH_ready (rs := [9]) (by kernel_rfl) (by simp) (AllReadyH.cons rfl (fun K hK => ?_) AllReadyH.nil)
          go_simp
          refine hK.out _ _ trivial (fun hHeld => ?_)
          clear hK K
          (try simp only [Act.put, List.getElem_toArray, List.getElem_cons_succ, List.getElem_cons_zero, List.setIfInBounds_toArray, List.set_cons_zero, List.set_cons_succ])
          refine wpAnyH_done (by kernel_rfl) ?_ _
          refine NoPanic.normal ?_
          have hf := HT2.out.put (c' := (C : Int)) (v := .slice p9 n9 k9)
          have HR := Lib.hid (And.intro hf.c0 hf.c1)
          have HOE := Lib.hid (tab_end HO92.out (HB1.out.trans (HB92.out.mono HB1.out.size)) (show w.heap.size < w1.heap.size by have := HZ1.out; omega) (C : Int))
          clear hf d0 d1 f0 f1 hHeld
          go_wp2_with fail
          exact bodyPost_ret (v := .agg #[.int .i64 (C : Int), .slice p9 n9 k9]) (by simp [results, Tryz.results24, go_sem, HR.out.1, HR.out.2]) rfl ⟨_, rfl, HOE.out.1, HOE.out.2⟩
end
end Go.Proofs.YtnbjcelfdppkcadGreat
