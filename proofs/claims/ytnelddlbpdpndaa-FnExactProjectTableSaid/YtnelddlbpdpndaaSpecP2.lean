/- The model's different rows in order, by contract. Conditions: as stated. -/
import Derived.Test.YtnelddlbpdpndaaSpecP
import Derived.Deep.RegionHeld3
namespace Go.Proofs.Ytnelddlbpdpndaa
open Go.RowKit

theorem slice_lo (x : Addr) (n cap h : Nat) (hh : h ≤ cap) (w : World) : (Instr.slice 22 (.slice (some x) n cap) none (some (.int .i64 (h : Int))) none).run Try.prog w = .ok (.slice (some x) h cap) w := by
  go_simp
theorem slice_hi (x : Addr) (n cap h : Nat) (h1 : h < n) (h2 : n ≤ cap) (w : World) : (Instr.slice 22 (.slice (some x) n cap) (some (.int .i64 (h : Int))) none none).run Try.prog w = .ok (.slice (some (x.add h)) (n - h) (cap - h)) w := by
  go_simp
  rw [if_pos (by omega), if_neg (by omega)]
theorem getD_take {α : Type} (l : List α) (h i : Nat) (d : α) (hi : i < h) : (l.take h).getD i d = l.getD i d := by
  rw [List.getD_eq_getElem?_getD, List.getD_eq_getElem?_getD, List.getElem?_take, if_pos hi]
theorem getD_drop {α : Type} (l : List α) (h i : Nat) (d : α) : (l.drop h).getD i d = l.getD (h + i) d := by
  rw [List.getD_eq_getElem?_getD, List.getD_eq_getElem?_getD, List.getElem?_drop]
theorem ReadSS.lo {w : World} {x : Addr} {cap h : Nat} {ll : List (List Int)} (hr : ReadSS w (.slice (some x) ll.length cap) ll) (hh : h ≤ ll.length) : ReadSS w (.slice (some x) h cap) (ll.take h) := by
  obtain ⟨a, cap', hv, hc⟩ := hr
  simp at hv
  obtain ⟨rfl, rfl⟩ := hv
  refine ⟨_, _, by rw [List.length_take, Nat.min_eq_left hh], fun i hi => ?_⟩
  rw [List.length_take] at hi
  obtain ⟨y, u, hy, hcell, hu⟩ := hc i (by omega)
  exact ⟨y, u, hy, hcell, by rw [getD_take _ _ _ _ (by omega)]; exact hu⟩
theorem ReadSS.hi {w : World} {x : Addr} {cap h : Nat} {ll : List (List Int)} (hr : ReadSS w (.slice (some x) ll.length cap) ll) : ReadSS w (.slice (some (x.add h)) (ll.length - h) (cap - h)) (ll.drop h) := by
  obtain ⟨a, cap', hv, hc⟩ := hr
  simp at hv
  obtain ⟨rfl, rfl⟩ := hv
  refine ⟨_, _, by rw [List.length_drop], fun i hi => ?_⟩
  rw [List.length_drop] at hi
  obtain ⟨y, u, hy, hcell, hu⟩ := hc (h + i) (by omega)
  simp at hy
  subst hy
  exact ⟨_, u, rfl, by rw [Addr.add_add]; exact hcell, by rw [getD_drop]; exact hu⟩
/-- An owned slice of rows, as rows beside their values. -/
theorem OwnSS.pairs {w : World} {B C : Nat} {v : Value} {ll : List (List Int)} (h : OwnSS w B C v ll) :
    ∃ P : List (Value × List Int), P.map (·.2) = ll ∧ RowsP w v P ∧ (∀ p ∈ P, OwnI w B p.1 p.2 ∧ ∀ g, p.1.ownBlock = some g → g < C) ∧ P.Pairwise (fun x y => ∀ g, x.1.ownBlock = some g → y.1.ownBlock ≠ some g) := by
  obtain ⟨V, o1, o2, o3, o4⟩ := h
  have hlen : ((List.range ll.length).map fun i => (V i, ll.getD i [])).length = ll.length := by simp
  have hget : ∀ i (h : i < ((List.range ll.length).map fun i => (V i, ll.getD i [])).length), ((List.range ll.length).map fun i => (V i, ll.getD i []))[i] = (V i, ll.getD i []) := fun i h => by simp
  refine ⟨(List.range ll.length).map fun i => (V i, ll.getD i []), ?_, ?_, ?_, ?_⟩
  · apply List.ext_getElem
    · simp
    · intro i h1 h2
      simp [List.getElem?_eq_getElem h2]
  · rcases ownsRow_shape o1 with ⟨rfl, hn⟩ | ⟨g, cap, rfl, -, -, -⟩
    · exact ⟨none, 0, by rw [hlen, hn], fun i hi => by rw [hlen] at hi; omega⟩
    · refine ⟨_, cap, by rw [hlen], fun i hi => ?_⟩
      rw [hget i hi]
      rw [hlen] at hi
      refine ⟨_, rfl, ?_, (o3 i hi).1.read⟩
      rw [add_zero_off, World.ownsRow.cellAt o1 i (by omega)]
      simp [hi]
  · intro p hp
    rw [List.mem_map] at hp
    obtain ⟨i, hi, rfl⟩ := hp
    exact o3 i (List.mem_range.1 hi)
  · rw [List.pairwise_iff_getElem]
    intro i j hi hj hij
    rw [hget i hi, hget j hj]
    exact o4 i j hij (by rw [hlen] at hj; exact hj)
theorem OwnSS.ofPairs {w : World} {B C : Nat} {v : Value} {P : List (Value × List Int)} (h1 : w.ownsRow B 31 1 v P.length (P.map (·.1))) (hC : ∀ g, v.ownBlock = some g → g < C)
    (h2 : ∀ p ∈ P, OwnI w B p.1 p.2 ∧ ∀ g, p.1.ownBlock = some g → g < C) (h3 : P.Pairwise (fun x y => ∀ g, x.1.ownBlock = some g → y.1.ownBlock ≠ some g)) : OwnSS w B C v (P.map (·.2)) := by
  have hg : ∀ i (h : i < P.length), (P.getD i (undef, [])) = P[i] := fun i h => by rw [List.getD_eq_getElem?_getD, List.getElem?_eq_getElem h]; rfl
  have hg2 : ∀ i (h : i < P.length), (P.map (·.2)).getD i [] = P[i].2 := fun i h => by rw [List.getD_eq_getElem?_getD, List.getElem?_eq_getElem (by simpa using h)]; simp
  refine ⟨fun i => (P.getD i (undef, [])).1, ?_, hC, fun i hi => ?_, fun i j hij hj g => ?_⟩
  · have e : (List.range (P.map (·.2)).length).map (fun i => (P.getD i (undef, [])).1) = P.map (·.1) := by
      apply List.ext_getElem
      · simp
      · intro i k1 k2
        simp only [List.length_map] at k2
        rw [List.getElem_map, List.getElem_range, List.getElem_map, hg i k2]
    rw [e, List.length_map]; exact h1
  · rw [List.length_map] at hi
    show OwnI w B (P.getD i (undef, [])).1 _ ∧ ∀ g, (P.getD i (undef, [])).1.ownBlock = some g → g < C
    rw [hg i hi, hg2 i hi]
    exact h2 _ (List.getElem_mem hi)
  · rw [List.length_map] at hj
    show (P.getD i (undef, [])).1.ownBlock = some g → (P.getD j (undef, [])).1.ownBlock ≠ some g
    rw [hg i (by omega), hg j hj]
    exact (List.pairwise_iff_getElem.1 h3) i j (by omega) hj hij g

theorem onceL_split (ll : List (List Int)) (h : Nat) {PA PB : List (Value × List Int)} (hA : PA.map (·.2) = onceL (ll.take h)) (hB : PB.map (·.2) = onceL (ll.drop h)) : (mergeP PA PB).map (·.2) = onceL ll := by
  have asc : ∀ P : List (Value × List Int), Asc (P.map (·.2)) → AscP P := fun P hp => by unfold Asc at hp; rw [List.pairwise_map] at hp; exact hp
  have csa : ∀ P : List (Value × List Int), AscP P → Asc (P.map (·.2)) := fun P hp => by unfold Asc; rw [List.pairwise_map]; exact hp
  apply onceL_eq
  · exact csa _ (mergeP_asc PA PB (asc _ (by rw [hA]; exact onceL_asc _)) (asc _ (by rw [hB]; exact onceL_asc _)))
  · intro z
    rw [mergeP_rows, hA, hB, onceL_mem, onceL_mem, ← List.mem_append, List.take_append_drop]
theorem onceL_one (r : List Int) : onceL [r] = [r] := rfl
/-- A list of rows that can be read and be cut. -/
def ReadC (w : World) (v : Value) (ll : List (List Int)) : Prop := ReadSS w v ll ∧ ∃ a cap, v = .slice a ll.length cap ∧ ll.length ≤ cap
theorem l3Once_nil (v : Value) (w : World) (hr : ReadC w v []) : Calls Try.prog 33 #[v] w (RetSS (onceL []) w) := by
  obtain ⟨-, a, cap, rfl, -⟩ := hr
  have ho : OwnSS (w.alloc (.cells #[] 31)) w.heap.size (w.heap.size + 1) (.slice (some ⟨w.heap.size, 0, none⟩) 0 0) [] :=
    ⟨fun _ => undef, World.ownsRow_made w #[] 0 (Nat.le_refl _) (by unfold maxLen; omega) rfl, (fun g hg => by simp [Value.ownBlock] at hg; omega), (fun i h => absurd h (Nat.not_lt_zero _)), (fun i j _ h => absurd h (Nat.not_lt_zero _))⟩
  go_enter Try.func33, Try.ntmps33
  go_wp2_with fail
  go_ret
  exact ⟨_, rfl, by rw [show onceL [] = [] from rfl]; simpa using ho, (Below.refl _ _).alloc (Nat.le_refl _) _⟩
theorem intsV_one (l : List Int) : ∀ u ∈ intsV l, u.oneCell' = true := by intro u hu; unfold intsV at hu; rw [List.mem_map] at hu; obtain ⟨x, -, rfl⟩ := hu; rfl
theorem intsV_news {w : World} {ad : Addr} {c : Nat} {l : List Int} (h : ReadI w (.slice (some ad) l.length c) l) : ∀ j u, (intsV l)[j]? = some u → w.cell? (ad.add j) = some u := by
  intro j u hu
  have hj : j < l.length := by
    have := (List.getElem?_eq_some_iff.1 hu).1
    rwa [intsV_length] at this
  rw [intsV_get l j hj] at hu
  obtain ⟨a, cap, hv, hc⟩ := h
  simp at hv
  obtain ⟨rfl, -⟩ := hv
  obtain ⟨x, hx, hcell⟩ := hc j hj
  simp at hx
  subst hx
  rw [hcell, ← hu]
set_option maxHeartbeats 1600000 in
theorem l3Once_one (r : List Int) (v : Value) (w : World) (hr : ReadC w v [r]) (hl : r.length ≤ 1048576) (hp : 0 < r.length) : Calls Try.prog 33 #[v] w (RetSS (onceL [r]) w) := by
  obtain ⟨i0, hi, hz0, hz1, hz2⟩ := info_parts infoSj
  have HI : Hid (_ ∧ _ ∧ _ ∧ _) := Lib.hid ⟨hi, hz0, hz1, hz2⟩
  clear hi hz0 hz1 hz2
  obtain ⟨j0, hi, hz0, hz1, hz2⟩ := info_parts info3j
  have HJ : Hid (_ ∧ _ ∧ _ ∧ _) := Lib.hid ⟨hi, hz0, hz1, hz2⟩
  clear hi hz0 hz1 hz2
  obtain ⟨hr1, a, cap, rfl, -⟩ := hr
  obtain ⟨a', cap', hv, hc⟩ := hr1
  simp at hv
  obtain ⟨rfl, rfl⟩ := hv
  obtain ⟨x, u, rfl, hx, hu⟩ := hc 0 (by simp)
  obtain ⟨ua, uc, hue, hcells⟩ := hu
  rw [show [r].getD 0 [] = r from rfl] at hue hcells
  subst hue
  obtain ⟨ad, rfl, -⟩ := hcells 0 hp
  have hread : ReadI w (.slice (some ad) r.length uc) r := ⟨_, _, rfl, hcells⟩
  have hbA := (Below.refl w.heap.size w).alloc (Nat.le_refl _) (.cells #[] 31)
  have hbB := hbA.alloc (by simp) (.cells #[] 3)
  have hx1 := (hbB.cell (World.block_lt_of_cell? w _ hx)).trans hx
  have e0 : x.add 0 = x := Addr.add_zero' x
  rw [e0] at hx1
  clear e0
  have HR := Lib.hid (hread.kept hbB)
  have HO1 : Hid (((w.alloc (.cells #[] 31)).alloc (.cells #[] 3)).ownsRow w.heap.size 3 1 (.slice (some ⟨w.heap.size + 1, 0, none⟩) 0 0) 0 []) := Lib.hid (by
    have h := World.ownsRow_made (w.alloc (.cells #[] 31)) #[] 0 (base := w.heap.size) (e := 3) (size := 1) (by simp) (by unfold maxLen; omega) rfl
    simpa using h)
  have HO0 := Lib.hid (World.ownsRow.alloc (World.ownsRow_made w #[] 0 (base := w.heap.size) (e := 31) (size := 1) (Nat.le_refl _) (by unfold maxLen; omega) rfl) (.cells #[] 3))
  clear hc hcells hread hbA
  have HBB := Lib.hid hbB
  clear hbB
  rw [show [r].length = 1 from rfl]
  go_enter Try.func33, Try.ntmps33
  go_wp2_with (first | (at_builtin; refine wpList_append_own _ rfl (.tmp 9) (.tmp 12) 31 rfl w.heap.size 3 j0 (.int .i64 0) 1 8 Try.underlying31 HJ.out.1 HJ.out.2.1 HJ.out.2.2.1 HJ.out.2.2.2 rfl (by decide) _ _ _ rfl HO1.out ad r.length uc (intsV r) rfl (by rw [intsV_length]; simp) (intsV_news HR.out) (intsV_one r) (by unfold maxLen; omega) (by omega) (by simp; omega) ?_; intro v1 w1 hown1 (hgrow1 : World.grownBy _ w1 (some (w.heap.size + 1))) _; have ho1 : OwnI w1 w.heap.size v1 r := (by unfold OwnI; simpa using hown1); have ho0 := World.ownsRow.kept HO0.out hgrow1 (.inr (by simp [Value.ownBlock])); have hb1 := HBB.out.grown hgrow1 (by simp; omega) (fun k hk => by simp at hk; omega); obtain ⟨a1, cap1, rfl, -⟩ := ho1.read; clear hown1 hgrow1) | (at_builtin; refine wpList_append_own _ rfl (.tmp 8) (.tmp 14) 22 rfl w.heap.size 31 i0 (.slice none 0 0) 1 24 Try.underlying22 HI.out.1 HI.out.2.1 HI.out.2.2.1 HI.out.2.2.2 rfl (by decide) _ _ _ rfl (World.ownsRow.alloc ho0 _) ⟨w1.heap.size, 0, none⟩ 1 1 [.slice a1 r.length cap1] rfl rfl (cell_one_new _ _ _) (one_slice _ _ _) (by unfold maxLen; omega) (by omega) (le_alloc hb1 (Nat.le_refl _) _) ?_; intro v2 w2 hown2 (hgrow2 : World.grownBy _ w2 (some w.heap.size)) _))
  have ho1' : OwnI (w1.alloc (.cells #[.slice a1 r.length cap1] 31)) w.heap.size (.slice a1 r.length cap1) r := World.ownsRow.alloc ho1 _
  have ho2 := ho1'.keptBy hgrow2 (fun g hg => row_apart (World.ownsRow.alloc ho0 (.cells #[.slice a1 r.length cap1] 31)) ho1' g (by simpa [Value.ownBlock] using hg))
  have hb2 := (hb1.alloc hb1.size (.cells #[.slice a1 r.length cap1] 31)).grown hgrow2 (by simp; have := hb1.size; omega) (fun k hk => by simp at hk; omega)
  have HOS : Hid (OwnSS w2 w.heap.size w2.heap.size v2 [r]) := Lib.hid (OwnSS.ofPairs (P := [(.slice a1 r.length cap1, r)]) (by simpa using hown2) (fun g hg => (World.ownsRow.lt hown2 g hg).2) (fun p hp => by simp at hp; subst hp; exact ⟨ho2, fun g hg => (ho2.lt g hg).2⟩) (List.pairwise_singleton _ _))
  clear hown2 hgrow2 ho1 ho1' ho0
  go_ret
  exact ⟨_, rfl, by rw [onceL_one]; exact HOS.out, hb2⟩
/-- What two recursive calls leave: the two halves, ready to be merged, and what the merge gives. -/
theorem merge_ready {W w1 w2 : World} {B : Nat} {v1 v2 : Value} {la lb : List (List Int)} (o1 : OwnSS w1 W.heap.size w1.heap.size v1 la) (b1 : Below W.heap.size W w1) (o2 : OwnSS w2 w1.heap.size w2.heap.size v2 lb) (b2 : Below w1.heap.size w1 w2)
    (ha : la.length ≤ 1048576 ∧ ∀ r ∈ la, r.length ≤ 1048576) (hb : lb.length ≤ 1048576 ∧ ∀ r ∈ lb, r.length ≤ 1048576) (hB : B ≤ W.heap.size) :
    ∃ PA PB : List (Value × List Int), Calls Try.prog 48 #[v1, v2] w2 (RetM (mergeP PA PB) w2) ∧
      ((PA.map (·.2) = la ∧ PB.map (·.2) = lb) ∧ ∀ w3 v3, w3.ownsRow w2.heap.size 31 1 v3 (mergeP PA PB).length ((mergeP PA PB).map (·.1)) → Below w2.heap.size w2 w3 → OwnSS w3 B w3.heap.size v3 ((mergeP PA PB).map (·.2))) := by
  obtain ⟨PA, a1, a2, a3, a4⟩ := (o1.same (Below.keeps b2 (Nat.le_refl _))).pairs
  obtain ⟨PB, c1, c2, c3, c4⟩ := o2.pairs
  have hal : PA.length = la.length := by rw [← a1, List.length_map]
  have hbl : PB.length = lb.length := by rw [← c1, List.length_map]
  refine ⟨PA, PB, l3Merge_any v1 v2 PA PB w2 a2 c2 (by omega) (by omega) (fun i h => ha.2 _ (by rw [← a1]; exact List.mem_map_of_mem (List.getElem_mem h))) (fun i h => hb.2 _ (by rw [← c1]; exact List.mem_map_of_mem (List.getElem_mem h))), ⟨a1, c1⟩, fun w3 v3 h3 b3 => ?_⟩
  have s1 := b1.size
  have s2 := b2.size
  have s3 := b3.size
  refine OwnSS.ofPairs ⟨h3.1, ?_⟩ (fun g hg => (World.ownsRow.lt h3 g hg).2) (fun p hp => ?_) (mergeP_pair PA PB a4 c4 fun x hx y hy => ⟨fun g h1 h2 => ?_, fun g h1 h2 => ?_⟩)
  · rcases h3.2 with hn | ⟨g, cap, cur, rfl, hb, rest⟩
    · exact .inl hn
    · exact .inr ⟨g, cap, cur, rfl, by omega, rest⟩
  · rcases mergeP_mem PA PB p hp with h | h
    · obtain ⟨k1, k2⟩ := a3 p h
      exact ⟨(k1.kept b3 (fun g hg => by have := k2 g hg; omega)).base (by omega), fun g hg => by have := k2 g hg; omega⟩
    · obtain ⟨k1, k2⟩ := c3 p h
      exact ⟨(k1.kept b3 (fun g hg => by have := k2 g hg; omega)).base (by omega), fun g hg => by have := k2 g hg; omega⟩
  · have e1 := (a3 x hx).2 g h1
    have e2 := ((c3 y hy).1.lt g h2).1
    omega
  · have e1 := (a3 x hx).2 g h2
    have e2 := ((c3 y hy).1.lt g h1).1
    omega
theorem rows_bd {ll : List (List Int)} {m : Nat} (ht : ∀ i, i < ll.length → (ll.getD i []).length ≤ m) : ∀ r ∈ ll, r.length ≤ m := by
  intro r hr
  obtain ⟨i, hi, rfl⟩ := List.mem_iff_getElem.1 hr
  have := ht i hi
  rwa [List.getD_eq_getElem?_getD, List.getElem?_eq_getElem hi] at this
theorem once_bd {ll : List (List Int)} {m : Nat} (hl : ll.length ≤ m) (ht : ∀ r ∈ ll, r.length ≤ m) : (onceL ll).length ≤ m ∧ ∀ r ∈ onceL ll, r.length ≤ m :=
  ⟨Nat.le_trans (onceL_len ll) hl, fun r hr => ht r ((onceL_mem ll r).1 hr)⟩
set_option maxRecDepth 20000 in
set_option maxHeartbeats 3200000 in
theorem l3Once_two (n : Nat) (ih : ∀ (ll : List (List Int)) (v : Value) (w : World), ll.length ≤ n → ll.length ≤ 1048576 → (∀ i, i < ll.length → (ll.getD i []).length ≤ 1048576 ∧ 0 < (ll.getD i []).length) → ReadC w v ll →
    Calls Try.prog 33 #[v] w (RetSS (onceL ll) w)) (ll : List (List Int)) (v : Value) (w : World) (hn : ll.length ≤ n + 1) (h2 : 2 ≤ ll.length) (hl : ll.length ≤ 1048576) (ht : ∀ i, i < ll.length → (ll.getD i []).length ≤ 1048576 ∧ 0 < (ll.getD i []).length) (hr : ReadC w v ll) :
    Calls Try.prog 33 #[v] w (RetSS (onceL ll) w) := by
  obtain ⟨hr1, a, cap, rfl, hcap⟩ := hr
  obtain ⟨x, rfl⟩ : ∃ x, a = some x := by
    obtain ⟨a', cap', hv, hc⟩ := hr1
    simp at hv
    obtain ⟨rfl, -⟩ := hv
    obtain ⟨x, u, hx, -⟩ := hc 0 (by omega)
    exact ⟨x, hx⟩
  obtain ⟨h, hh⟩ : ∃ h : Nat, h = ll.length / 2 := ⟨_, rfl⟩
  have hdiv : (ll.length : Int) / 2 = (h : Int) := by omega
  have hb1 : 1 ≤ h := by omega
  have hb2 : h < ll.length := by omega
  have hlen1 : (ll.take h).length = h := by rw [List.length_take]; omega
  have hlen2 : (ll.drop h).length = ll.length - h := List.length_drop
  have HLO := Lib.hid (fun w' (hb : Below w.heap.size w w') => ih (ll.take h) (.slice (some x) h cap) w' (by omega) (by omega) (fun i hi => by rw [getD_take _ _ _ _ (by omega)]; exact ht i (by omega)) ⟨(hr1.kept hb).lo (by omega), some x, cap, by rw [hlen1], by omega⟩)
  have HHI := Lib.hid (fun w' (hb : Below w.heap.size w w') => ih (ll.drop h) (.slice (some (x.add h)) (ll.length - h) (cap - h)) w' (by omega) (by omega) (fun i hi => by rw [getD_drop]; exact ht (h + i) (by omega)) ⟨(hr1.kept hb).hi, some (x.add h), cap - h, by rw [hlen2], by omega⟩)
  have hs1 := fun W => slice_lo x ll.length cap h (by omega) W
  have hs2 := fun W => slice_hi x ll.length cap h hb2 hcap W
  have HLn := Lib.hid (And.intro (once_bd (m := 1048576) (ll := ll.take h) (by omega) (fun r hr => rows_bd (fun i hi => (ht i hi).1) r (List.mem_of_mem_take hr))) (once_bd (m := 1048576) (ll := ll.drop h) (by omega) (fun r hr => rows_bd (fun i hi => (ht i hi).1) r (List.mem_of_mem_drop hr))))
  have HD := Lib.hid ((Below.refl w.heap.size w).alloc (Nat.le_refl _) (.cells #[] 31)).drew
  have hne0 : ((ll.length : Int) == 0) = false := by rw [beq_eq_false_iff_ne]; omega
  have hne1 : ((ll.length : Int) == 1) = false := by rw [beq_eq_false_iff_ne]; omega
  have hwr : IntKind.i64.wrap (h : Int) = (h : Int) := by rw [IntKind.wrap_i64]; omega
  clear ht hr1 ih hlen1 hlen2 hh
  go_enter Try.func33, Try.ntmps33
  go_wp2_with fail
  refine wp_region_noPanic ?_
  refine wp_region_held_drew (S := (fun _ => True)) (by kernel_rfl) ?_ (fun hHeld => ?_)
  · ((try dsimp only); (try exact trivial))
  refine wpAnyH_take (i := 0) (v := ?_) rfl (by kernel_rfl) (by kernel_rfl) (by kernel_rfl) (fun _ _ _ h => h) (Or.inl ⟨by rfl, ?_⟩) (by assumption) ?_
  rotate_left
  · (intro w hSw; (try dsimp only at hSw); go_simp; (try with_reducible rfl))
  (try simp only [Act.put, List.getElem_toArray, List.getElem_cons_zero, List.setIfInBounds_toArray, List.set_cons_zero, List.set_cons_succ])
  refine wpAnyH_take (i := 1) (v := ?_) rfl (by kernel_rfl) (by kernel_rfl) (by kernel_rfl) (fun _ _ _ h => h) (Or.inl ⟨by rfl, ?_⟩) (by assumption) ?_
  rotate_left
  · (intro w hSw; (try dsimp only at hSw); go_simp; (try with_reducible rfl))
  (try simp only [Act.put, List.getElem_toArray, List.getElem_cons_succ, List.getElem_cons_zero, List.setIfInBounds_toArray, List.set_cons_zero, List.set_cons_succ])
  refine wpAnyH_take (i := 2) (v := ?_) rfl (by kernel_rfl) (by kernel_rfl) (by kernel_rfl) (fun _ _ _ h => h) (Or.inl ⟨by rfl, ?_⟩) (by assumption) ?_
  rotate_left
  · (intro w hSw; (try dsimp only at hSw); go_simp; (try with_reducible rfl))
  (try simp only [Act.put, List.getElem_toArray, List.getElem_cons_succ, List.getElem_cons_zero, List.setIfInBounds_toArray, List.set_cons_zero, List.set_cons_succ])
  refine wpAnyH_take (i := 3) (v := ?_) rfl (by kernel_rfl) (by kernel_rfl) (by kernel_rfl) (fun _ _ _ h => h) (Or.inl ⟨by rfl, ?_⟩) (by assumption) ?_
  rotate_left
  · (intro w hSw; (try dsimp only at hSw); go_simp; (try with_reducible rfl))
  (try simp only [Act.put, List.getElem_toArray, List.getElem_cons_succ, List.getElem_cons_zero, List.setIfInBounds_toArray, List.set_cons_zero, List.set_cons_succ])
  refine wpAnyH_take (i := 4) (v := ?_) rfl (by kernel_rfl) (by kernel_rfl) (by kernel_rfl) (fun _ _ _ h => h) (Or.inl ⟨by rfl, ?_⟩) (by assumption) ?_
  rotate_left
  · (intro w hSw; (try dsimp only at hSw); go_simp; (try with_reducible rfl))
  (try simp only [Act.put, List.getElem_toArray, List.getElem_cons_succ, List.getElem_cons_zero, List.setIfInBounds_toArray, List.set_cons_zero, List.set_cons_succ])
  refine wpAnyH_take (i := 6) (v := ?_) rfl (by kernel_rfl) (by kernel_rfl) (by kernel_rfl) (fun _ _ _ h => h) (Or.inl ⟨by rfl, ?_⟩) (by assumption) ?_
  rotate_left
  · (intro w hSw; (try dsimp only at hSw); go_simp; (try with_reducible rfl))
  (try simp only [Act.put, List.getElem_toArray, List.getElem_cons_succ, List.getElem_cons_zero, List.setIfInBounds_toArray, List.set_cons_zero, List.set_cons_succ])
  refine wpAnyH_take (i := 7) (v := ?_) rfl (by kernel_rfl) (by kernel_rfl) (by kernel_rfl) (fun _ _ _ h => h) (Or.inl ⟨by rfl, ?_⟩) (by assumption) ?_
  rotate_left
  · (intro w hSw; (try dsimp only at hSw); go_simp; (try with_reducible rfl))
  (try simp only [Act.put, List.getElem_toArray, List.getElem_cons_succ, List.getElem_cons_zero, List.setIfInBounds_toArray, List.set_cons_zero, List.set_cons_succ])
  refine wpAnyH_take (i := 8) (v := ?_) rfl (by kernel_rfl) (by kernel_rfl) (by kernel_rfl) (fun _ _ _ h => h) (Or.inl ⟨by rfl, ?_⟩) (by assumption) ?_
  rotate_left
  · (intro w hSw; (try dsimp only at hSw); go_simp; (try with_reducible rfl))
  (try simp only [Act.put, List.getElem_toArray, List.getElem_cons_succ, List.getElem_cons_zero, List.setIfInBounds_toArray, List.set_cons_zero, List.set_cons_succ])
  refine wpAnyH_take (i := 9) (v := ?_) rfl (by kernel_rfl) (by kernel_rfl) (by kernel_rfl) (fun _ _ _ h => h) (Or.inl ⟨by rfl, ?_⟩) (by assumption) ?_
  rotate_left
  · (intro w hSw; (try dsimp only at hSw); go_simp; (try with_reducible rfl))
  (try simp only [Act.put, List.getElem_toArray, List.getElem_cons_succ, List.getElem_cons_zero, List.setIfInBounds_toArray, List.set_cons_zero, List.set_cons_succ])
  refine wpAnyH_take (i := 10) (v := ?_) rfl (by kernel_rfl) (by kernel_rfl) (by kernel_rfl) (fun _ _ _ h => h) (Or.inl ⟨by rfl, ?_⟩) (by assumption) ?_
  rotate_left
  · (intro w hSw; (try dsimp only at hSw); go_simp; (try with_reducible rfl))
  (try simp only [Act.put, List.getElem_toArray, List.getElem_cons_succ, List.getElem_cons_zero, List.setIfInBounds_toArray, List.set_cons_zero, List.set_cons_succ])
  refine wpAnyH_ready (rs := [5]) (by kernel_rfl) (by simp) (AllReadyH.cons rfl (fun K hK => ?_) AllReadyH.nil)
  (first | ((first | (go_at_call 33; refine (HHI.out _ (HD.out.trans (b1.mono HD.out.size))).mono ?_; rintro e w2 ⟨v2, rfl, o2, b2⟩; obtain ⟨PA, PB, hMC, hMF⟩ := merge_ready o1 b1 o2 b2 HLn.out.1 HLn.out.2 HD.out.size) | (go_at_call 33; refine (HLO.out _ HD.out).mono ?_; rintro e w1 ⟨v1, rfl, o1, b1⟩) | (go_at_call 48; refine hMC.mono ?_; rintro e w3 ⟨v3, rfl, o3, b3⟩))) | (go_simp; (first | (go_at_call 33; refine (HHI.out _ (HD.out.trans (b1.mono HD.out.size))).mono ?_; rintro e w2 ⟨v2, rfl, o2, b2⟩; obtain ⟨PA, PB, hMC, hMF⟩ := merge_ready o1 b1 o2 b2 HLn.out.1 HLn.out.2 HD.out.size) | (go_at_call 33; refine (HLO.out _ HD.out).mono ?_; rintro e w1 ⟨v1, rfl, o1, b1⟩) | (go_at_call 48; refine hMC.mono ?_; rintro e w3 ⟨v3, rfl, o3, b3⟩))))
  (try (go_wp2_with fail))
  refine hK.out _ _ ?_ (fun hHeld => ?_)
  · ((try dsimp only); (try exact trivial))
  clear hK K
  (try simp only [Act.put, List.getElem_toArray, List.getElem_cons_succ, List.getElem_cons_zero, List.setIfInBounds_toArray, List.set_cons_zero, List.set_cons_succ])
  refine wpAnyH_ready (rs := [11]) (by kernel_rfl) (by simp) (AllReadyH.cons rfl (fun K hK => ?_) AllReadyH.nil)
  (first | ((first | (go_at_call 33; refine (HHI.out _ (HD.out.trans (b1.mono HD.out.size))).mono ?_; rintro e w2 ⟨v2, rfl, o2, b2⟩; obtain ⟨PA, PB, hMC, hMF⟩ := merge_ready o1 b1 o2 b2 HLn.out.1 HLn.out.2 HD.out.size) | (go_at_call 33; refine (HLO.out _ HD.out).mono ?_; rintro e w1 ⟨v1, rfl, o1, b1⟩) | (go_at_call 48; refine hMC.mono ?_; rintro e w3 ⟨v3, rfl, o3, b3⟩))) | (go_simp; (first | (go_at_call 33; refine (HHI.out _ (HD.out.trans (b1.mono HD.out.size))).mono ?_; rintro e w2 ⟨v2, rfl, o2, b2⟩; obtain ⟨PA, PB, hMC, hMF⟩ := merge_ready o1 b1 o2 b2 HLn.out.1 HLn.out.2 HD.out.size) | (go_at_call 33; refine (HLO.out _ HD.out).mono ?_; rintro e w1 ⟨v1, rfl, o1, b1⟩) | (go_at_call 48; refine hMC.mono ?_; rintro e w3 ⟨v3, rfl, o3, b3⟩))))
  (try (go_wp2_with fail))
  refine hK.out _ _ ?_ (fun hHeld => ?_)
  · ((try dsimp only); (try exact trivial))
  clear hK K
  (try simp only [Act.put, List.getElem_toArray, List.getElem_cons_succ, List.getElem_cons_zero, List.setIfInBounds_toArray, List.set_cons_zero, List.set_cons_succ])
  refine wpAnyH_ready (rs := [12]) (by kernel_rfl) (by simp) (AllReadyH.cons rfl (fun K hK => ?_) AllReadyH.nil)
  (first | ((first | (go_at_call 33; refine (HHI.out _ (HD.out.trans (b1.mono HD.out.size))).mono ?_; rintro e w2 ⟨v2, rfl, o2, b2⟩; obtain ⟨PA, PB, hMC, hMF⟩ := merge_ready o1 b1 o2 b2 HLn.out.1 HLn.out.2 HD.out.size) | (go_at_call 33; refine (HLO.out _ HD.out).mono ?_; rintro e w1 ⟨v1, rfl, o1, b1⟩) | (go_at_call 48; refine hMC.mono ?_; rintro e w3 ⟨v3, rfl, o3, b3⟩))) | (go_simp; (first | (go_at_call 33; refine (HHI.out _ (HD.out.trans (b1.mono HD.out.size))).mono ?_; rintro e w2 ⟨v2, rfl, o2, b2⟩; obtain ⟨PA, PB, hMC, hMF⟩ := merge_ready o1 b1 o2 b2 HLn.out.1 HLn.out.2 HD.out.size) | (go_at_call 33; refine (HLO.out _ HD.out).mono ?_; rintro e w1 ⟨v1, rfl, o1, b1⟩) | (go_at_call 48; refine hMC.mono ?_; rintro e w3 ⟨v3, rfl, o3, b3⟩))))
  (try (go_wp2_with fail))
  refine hK.out _ _ ?_ (fun hHeld => ?_)
  · ((try dsimp only); (try exact trivial))
  clear hK K
  (try simp only [Act.put, List.getElem_toArray, List.getElem_cons_succ, List.getElem_cons_zero, List.setIfInBounds_toArray, List.set_cons_zero, List.set_cons_succ])
  refine wpAnyH_take (i := 13) (v := ?_) rfl (by kernel_rfl) (by kernel_rfl) (by kernel_rfl) (fun _ _ _ h => h) (Or.inl ⟨by rfl, ?_⟩) (by assumption) ?_
  rotate_left
  · (intro w hSw; (try dsimp only at hSw); go_simp; (try with_reducible rfl))
  (try simp only [Act.put, List.getElem_toArray, List.getElem_cons_succ, List.getElem_cons_zero, List.setIfInBounds_toArray, List.set_cons_zero, List.set_cons_succ])
  refine wpAnyH_done (by kernel_rfl) ?_ _
  refine NoPanic.normal ?_
  obtain ⟨⟨e1, e2⟩, hF⟩ := hMF
  have HOS := Lib.hid (hF w3 v3 o3 b3)
  rw [onceL_split ll h e1 e2] at HOS
  have hb3 := (HD.out.trans (b1.mono HD.out.size)).trans (b2.mono (HD.out.trans (b1.mono HD.out.size)).size)
  have HB3 := Lib.hid (hb3.trans (b3.mono hb3.size))
  clear hF o3 hb3 b3 hMC
  go_wp2_with fail
  go_ret
  exact ⟨_, rfl, HOS.out, HB3.out⟩
theorem l3Once_any (n : Nat) : ∀ (ll : List (List Int)) (v : Value) (w : World), ll.length ≤ n → ll.length ≤ 1048576 → (∀ i, i < ll.length → (ll.getD i []).length ≤ 1048576 ∧ 0 < (ll.getD i []).length) → ReadC w v ll →
    Calls Try.prog 33 #[v] w (RetSS (onceL ll) w) := by
  induction n with
  | zero =>
    intro ll v w hn hl ht hr
    obtain rfl : ll = [] := List.eq_nil_of_length_eq_zero (by omega)
    exact l3Once_nil v w hr
  | succ n ih =>
    intro ll v w hn hl ht hr
    by_cases h0 : ll.length = 0
    · obtain rfl : ll = [] := List.eq_nil_of_length_eq_zero h0
      exact l3Once_nil v w hr
    · by_cases h1 : ll.length = 1
      · obtain ⟨r, rfl⟩ := List.length_eq_one_iff.1 h1
        have := ht 0 (by simp)
        exact l3Once_one r v w hr this.1 this.2
      · exact l3Once_two n ih ll v w hn (by omega) hl ht hr
end Go.Proofs.Ytnelddlbpdpndaa
