/- The sort of a row of pointers to records, by contract. Conditions: as stated. -/
import Derived.Test.YtnelddlbpdpndaaPrjC
import Derived.Test.YtnelddlbpdpndaaSrtL
namespace Go.Proofs.Ytnelddlbpdpndaa
open Go.RowKit Go.Sort Go.Shelf

/-- The first cells of block g point to the records l, which lie below B in blocks of their own, none of them g. -/
structure Ptrs (w : World) (g : Nat) (l : List (Nat × List Int)) : Prop where
  cell : ∀ j, j < l.length → w.cell? ⟨g, j, none⟩ = some (.pointer (some ⟨(l.getD j (0, [])).1, 0, none⟩)) ∧ w.frozen? ⟨g, j, none⟩ = false
  recs : ∀ p ∈ l, RecAt w p.1 p.2 ∧ p.1 ≠ g ∧ p.1 < w.heap.size
theorem getD_mem {α : Type} (l : List α) (j : Nat) (d : α) (h : j < l.length) : l.getD j d ∈ l := by rw [List.getD_eq_getElem?_getD, List.getElem?_eq_getElem h]; exact List.getElem_mem _
theorem getD_get {α : Type} (l : List α) (j : Nat) (d : α) (h : j < l.length) : l.getD j d = l[j] := by rw [List.getD_eq_getElem?_getD, List.getElem?_eq_getElem h]; rfl

/-- Pointers that may be sorted: to records of the world w, none in block g. -/
structure RecP (w : World) (g : Nat) where
  val : Nat × List Int
  ok : RecAt w val.1 val.2 ∧ val.1 ≠ g ∧ val.1 < w.heap.size
def encP {w : World} {g : Nat} (x : RecP w g) : Value := .pointer (some ⟨x.1.1, 0, none⟩)
def cfP {w : World} {g : Nat} (x y : RecP w g) : Int := cmpL (pad5 x.1.2) (pad5 y.1.2)
theorem ltP {w : World} {g : Nat} (x y : RecP w g) : ltOf cfP x y = lessR (pad5 x.1.2) (pad5 y.1.2) := cmpL_less _ _
theorem lessR_ntrans {a b c : List Int} (h1 : lessR a b = false) (h2 : lessR b c = false) : lessR a c = false := by
  cases h : lessR a c with
  | false => rfl
  | true =>
    cases h3 : lessR c b with
    | true => rw [lessR_trans _ _ _ h h3] at h1; cases h1
    | false => rw [lessR_total _ _ h2 h3] at h1; rw [h1] at h; cases h
theorem swoP (w : World) (g : Nat) : SWO (ltOf (cfP (w := w) (g := g))) where
  irrefl x := by rw [ltP]; exact lessR_irrefl _
  trans x y z h1 h2 := by rw [ltP] at *; exact lessR_trans _ _ _ h1 h2
  ntrans x y z h1 h2 := by rw [ltP] at *; exact lessR_ntrans h1 h2
theorem recAt_sort {w : World} {g m : Nat} [Inhabited (RecP w g)] (os : Array Obj) (dk : Array (RecP w g)) (x : RecP w g) : RecAt (sortWorld encP w g 0 m dk os) x.1.1 x.1.2 := by
  obtain ⟨⟨b, r⟩, h1, h2, h3⟩ := x
  intro j hj
  obtain ⟨c1, c2⟩ := h1 j hj
  unfold sortWorld
  refine ⟨?_, ?_⟩
  · rw [cell?_grow _ _ _ (by rw [Sort.size_putRow]; exact h3), cell?_putRow_other _ _ _ _ _ _ (.inl h2), cell?_ahead]; exact c1
  · rw [frozen?_grow _ _ _ (by rw [Sort.size_putRow]; exact h3), frozen?_putRow, frozen?_ahead]; exact c2
theorem grownBy_sortP {w : World} {g m : Nat} [Inhabited (RecP w g)] (os : Array Obj) (d : Array (RecP w g)) : w.grownBy (sortWorld encP w g 0 m d os) (some g) := by
  unfold sortWorld
  refine ⟨rfl, rfl, rfl, by rw [size_grow, Sort.size_putRow]; exact Nat.le_add_right _ _, fun k hk hne => ?_⟩
  rw [heap_grow_old _ _ (by rw [Sort.size_putRow]; exact hk)]
  have : g ≠ k := fun e => hne (by rw [e])
  simp [putRow, mapBlock, Sort.ahead, Array.getElem?_modify, this]
/-- In order: none is less than one before it. -/
def Ordd (l : List (Nat × List Int)) : Prop := l.Pairwise fun p q => lessR (pad5 q.2) (pad5 p.2) = false
theorem sortRecs_some (g cap : Nat) (l : List (Nat × List Int)) (w : World) (h : Ptrs w g l) (hg : g < w.heap.size) (hl : l.length ≤ 1048576) (h0 : 0 < l.length) :
    Calls Try.prog 52 #[.slice (some ⟨g, 0, none⟩) l.length cap, .func (.func 53) #[] #[]] w fun e w' =>
      e = .returned (.tuple #[]) ∧ ∃ l', l'.Perm l ∧ Ordd l' ∧ Ptrs w' g l' ∧ w.grownBy w' (some g) := by
  haveI : Inhabited (RecP w g) := ⟨⟨l.getD 0 (0, []), h.recs _ (getD_mem _ _ _ h0)⟩⟩
  have eg : ∀ args w, (callFunc 53 args).run Try.prog w = .ok (.enter 53 args) w := enters_of Try.func53 (by kernel_rfl) rfl
  obtain ⟨L, hL⟩ : ∃ L : List (RecP w g), L.map (fun x => x.1) = l := ⟨l.attach.map fun p => ⟨p.1, h.recs p.1 p.2⟩, by
    rw [List.map_map]; exact List.attach_map_subtype_val l⟩
  have hlen : L.toArray.size = l.length := by rw [← hL]; simp
  have hget : ∀ j, j < l.length → (L.toArray[j]!).1 = l.getD j (0, []) := fun j hj => by
    have hj' : j < L.length := by simpa using (by rw [hlen]; exact hj : j < L.toArray.size)
    rw [getElem!_pos L.toArray j (by rw [hlen]; exact hj), getD_get _ _ _ hj]
    simp [← hL]
  have hH : Holds encP w g 0 L.toArray := fun j hj => by
    rw [hlen] at hj
    obtain ⟨c1, c2⟩ := h.cell j hj
    rw [Nat.zero_add]
    refine ⟨?_, c2⟩
    unfold encP
    rw [hget j hj]; exact c1
  have hcmp : CmpReads Try.prog 53 #[] encP (cfP (w := w) (g := g)) g 0 L.toArray.size w := fun m os dk _ x y =>
    cmpRec_any x.1.1 y.1.1 x.1.2 y.1.2 _ (recAt_sort os dk x) (recAt_sort os dk y)
  have hS := Any.slices_SortFunc sortL encP (fun _ => rfl) cfP (swoP w g) 53 #[] g 0 cap L.toArray w eg hcmp.lays hH hg (by rw [hlen]; omega)
  rw [hlen] at hS
  change Calls Try.prog 52 _ _ _ at hS
  refine hS.mono ?_
  rintro e w' ⟨rfl, d', m, os, hp, hs, rfl⟩
  have hds : d'.size = l.length := by rw [hp.1, hlen]
  have hgd : ∀ j, j < l.length → (d'[j]!).1 = (d'.toList.map fun x => x.1).getD j (0, []) := fun j hj => by
    rw [getElem!_pos d' j (by omega), getD_get _ _ _ (by simpa using (by omega : j < d'.size))]
    simp
  refine ⟨rfl, d'.toList.map (fun x => x.1), ?_, ?_, ⟨fun j hj => ?_, fun p hp' => ?_⟩, grownBy_sortP os d'⟩
  · have h2 := hp.2.2
    rw [Array.extract_eq_self_of_le (by omega), Array.extract_eq_self_of_le (by omega)] at h2
    have h3 := h2.map (fun x => x.1)
    rw [hL] at h3
    exact h3
  · unfold Ordd
    rw [List.pairwise_map, List.pairwise_iff_getElem]
    intro i j hi hj hij
    have h2 := hs i j (Nat.zero_le _) hij (by simp at hj; omega)
    rw [getElem!_pos d' j (by simpa using hj), getElem!_pos d' i (by simpa using hi), ltP] at h2
    simpa using h2
  · have hj' : j < l.length := by simp at hj; omega
    have hh := holds_grow encP _ os g 0 d' (by rw [Sort.size_putRow]; exact hg) (holds_putRow encP (Sort.ahead w m) g 0 L.toArray d' hH (by omega)) j (by omega)
    rw [Nat.zero_add] at hh
    refine ⟨?_, hh.2⟩
    rw [← hgd j hj']; exact hh.1
  · rw [List.mem_map] at hp'
    obtain ⟨x, -, rfl⟩ := hp'
    exact ⟨recAt_sort os d' x, x.2.2.1, Nat.lt_of_lt_of_le x.2.2.2 (grownBy_sortP os d').size⟩
theorem sortRecs_any (g cap : Nat) (l : List (Nat × List Int)) (w : World) (h : Ptrs w g l) (hg : g < w.heap.size) (hl : l.length ≤ 1048576) :
    Calls Try.prog 52 #[.slice (some ⟨g, 0, none⟩) l.length cap, .func (.func 53) #[] #[]] w fun e w' =>
      e = .returned (.tuple #[]) ∧ ∃ l', l'.Perm l ∧ Ordd l' ∧ Ptrs w' g l' ∧ w.grownBy w' (some g) := by
  by_cases h0 : 0 < l.length
  · exact sortRecs_some g cap l w h hg hl h0
  · obtain rfl : l = [] := List.eq_nil_of_length_eq_zero (by omega)
    have hS := AnyF.slices_SortFunc_none (P := Try.prog) (ρ := sortL_ren) { sortL with } (some ⟨g, 0, none⟩) cap (.func (.func 53) #[] #[]) w
    change Calls Try.prog 52 _ _ _ at hS
    refine hS.mono ?_
    rintro e w' ⟨rfl, rfl⟩
    exact ⟨rfl, [], List.Perm.refl _, List.Pairwise.nil, h, ⟨rfl, rfl, rfl, Nat.le_refl _, fun _ _ _ => rfl⟩⟩
end Go.Proofs.Ytnelddlbpdpndaa
