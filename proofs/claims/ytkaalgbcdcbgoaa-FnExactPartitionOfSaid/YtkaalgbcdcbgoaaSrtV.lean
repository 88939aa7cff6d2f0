/- The sort of a row of rows of ints by slices.Compare, by contract. Conditions: as stated. -/
import Derived.Test.YtkaalgbcdcbgoaaCmpI
import Derived.Test.YtkaalgbcdcbgoaaSrtL
namespace Go.Proofs.Ytkaalgbcdcbgoaa
open Go.RowKit Go.Sort Go.Shelf

/-- The first cells of block g hold the slices l, each of a row of its own from block B on, none of them in g. -/
structure Rws (w : World) (B g : Nat) (l : List (Value × List Int)) : Prop where
  cell : ∀ j, j < l.length → w.cell? ⟨g, j, none⟩ = some (l.getD j (.slice none 0 0, [])).1 ∧ w.frozen? ⟨g, j, none⟩ = false
  recs : ∀ p ∈ l, OwnI w B p.1 p.2 ∧ p.1.ownBlock ≠ some g ∧ p.2.length ≤ 1048576
theorem getD_memV {α : Type} (l : List α) (j : Nat) (d : α) (h : j < l.length) : l.getD j d ∈ l := by rw [List.getD_eq_getElem?_getD, List.getElem?_eq_getElem h]; exact List.getElem_mem _
theorem getD_getV {α : Type} (l : List α) (j : Nat) (d : α) (h : j < l.length) : l.getD j d = l[j] := by rw [List.getD_eq_getElem?_getD, List.getElem?_eq_getElem h]; rfl
/-- Slices that may be sorted. -/
structure RecW (w : World) (B g : Nat) where
  val : Value × List Int
  ok : OwnI w B val.1 val.2 ∧ val.1.ownBlock ≠ some g ∧ val.2.length ≤ 1048576
def encW {w : World} {B g : Nat} (x : RecW w B g) : Value := x.1.1
def cfW {w : World} {B g : Nat} (x y : RecW w B g) : Int := cmpL x.1.2 y.1.2
theorem ltW {w : World} {B g : Nat} (x y : RecW w B g) : ltOf cfW x y = lessR x.1.2 y.1.2 := cmpL_less _ _
theorem lessR_ntransV {a b c : List Int} (h1 : lessR a b = false) (h2 : lessR b c = false) : lessR a c = false := by
  cases h : lessR a c with
  | false => rfl
  | true =>
    cases h3 : lessR c b with
    | true => rw [lessR_trans _ _ _ h h3] at h1; cases h1
    | false => rw [lessR_total _ _ h2 h3] at h1; rw [h1] at h; cases h
theorem swoW (w : World) (B g : Nat) : SWO (ltOf (cfW (w := w) (B := B) (g := g))) where
  irrefl x := by rw [ltW]; exact lessR_irrefl _
  trans x y z h1 h2 := by rw [ltW] at *; exact lessR_trans _ _ _ h1 h2
  ntrans x y z h1 h2 := by rw [ltW] at *; exact lessR_ntransV h1 h2
theorem grownBy_sortW {w : World} {B g m : Nat} [Inhabited (RecW w B g)] (os : Array Obj) (d : Array (RecW w B g)) : w.grownBy (sortWorld encW w g 0 m d os) (some g) := by
  unfold sortWorld
  refine ⟨rfl, rfl, rfl, by rw [size_grow, Sort.size_putRow]; exact Nat.le_add_right _ _, fun k hk hne => ?_⟩
  rw [heap_grow_old _ _ (by rw [Sort.size_putRow]; exact hk)]
  have : g ≠ k := fun e => hne (by rw [e])
  simp [putRow, mapBlock, Sort.ahead, Array.getElem?_modify, this]
theorem heap_sortW {w : World} {B g m : Nat} [Inhabited (RecW w B g)] {cur : Array Value} {e : TypeId} {fr : Nat × Nat} (os : Array Obj) (d : Array (RecW w B g)) (hb : w.heap[g]? = some (.cells cur e fr)) :
    (sortWorld encW w g 0 m d os).heap[g]? = some (.cells (putCells encW 0 d cur) e fr) := by
  have hg : g < w.heap.size := (Array.getElem?_eq_some_iff.1 hb).1
  unfold sortWorld
  rw [heap_grow_old _ _ (by simpa using hg)]
  simp [putRow, mapBlock, Sort.ahead, Array.getElem?_modify, hb, onCells]
theorem take_putW {w : World} {B g : Nat} [Inhabited (RecW w B g)] (cur : Array Value) (d : Array (RecW w B g)) (h : d.size ≤ cur.size) : (putCells encW 0 d cur).toList.take d.size = d.toList.map encW := by
  apply List.ext_getElem?
  intro j
  by_cases hj : j < d.size
  · rw [List.getElem?_take_of_lt hj, Array.getElem?_toList]
    simp [putCells, hj, show j < cur.size by omega]
  · rw [List.getElem?_take_eq_none (by omega), List.getElem?_eq_none (by simp; omega)]
theorem own_sort {w : World} {B g m : Nat} [Inhabited (RecW w B g)] (os : Array Obj) (dk : Array (RecW w B g)) (x : RecW w B g) : OwnI (sortWorld encW w g 0 m dk os) B x.1.1 x.1.2 :=
  OwnI.keptBy x.2.1 (grownBy_sortW os dk) (fun k hk => by cases hk; exact x.2.2.1)
theorem own_oneCell {w : World} {B : Nat} {v : Value} {l : List Int} (h : OwnI w B v l) : ∃ a n c, v = .slice a n c := by
  rcases h.shape with ⟨rfl, -⟩ | ⟨g, cap, rfl, -⟩ <;> exact ⟨_, _, _, rfl⟩
/-- In order: none is less than one before it. -/
def OrdV (l : List (Value × List Int)) : Prop := l.Pairwise fun p q => lessR q.2 p.2 = false
set_option maxHeartbeats 800000 in
theorem sortRows_some (B g cap : Nat) (l : List (Value × List Int)) (w : World) (h : Rws w B g l) (hg : g < w.heap.size) (hl : l.length ≤ 1048576) (cur : Array Value) (hcur : w.heap[g]? = some (.cells cur 46 (0, 0))) (hcl : l.length ≤ cur.size) (h0 : 0 < l.length) :
    Calls Try.prog 60 #[.slice (some ⟨g, 0, none⟩) l.length cap, .func (.func 61) #[] #[]] w fun e w' =>
      e = .returned (.tuple #[]) ∧ ∃ l', l'.Perm l ∧ OrdV l' ∧ Rws w' B g l' ∧ w.grownBy w' (some g) ∧ ∃ cur', w'.heap[g]? = some (.cells cur' 46 (0, 0)) ∧ cur'.size = cur.size ∧ cur'.toList.take l.length = l'.map (·.1) := by
  haveI : Inhabited (RecW w B g) := ⟨⟨l.getD 0 (.slice none 0 0, []), h.recs _ (getD_memV _ _ _ h0)⟩⟩
  have eg : ∀ args w, (callFunc 61 args).run Try.prog w = .ok (.enter 61 args) w := enters_of Try.func61 (by kernel_rfl) rfl
  obtain ⟨L, hL⟩ : ∃ L : List (RecW w B g), L.map (fun x => x.1) = l := ⟨l.attach.map fun p => ⟨p.1, h.recs p.1 p.2⟩, by
    rw [List.map_map]; exact List.attach_map_subtype_val l⟩
  have hlen : L.toArray.size = l.length := by rw [← hL]; simp
  have hget : ∀ j, j < l.length → (L.toArray[j]!).1 = l.getD j (.slice none 0 0, []) := fun j hj => by
    have hj' : j < L.length := by simpa using (by rw [hlen]; exact hj : j < L.toArray.size)
    rw [getElem!_pos L.toArray j (by rw [hlen]; exact hj), getD_getV _ _ _ hj]
    simp [← hL]
  have hH : Holds encW w g 0 L.toArray := fun j hj => by
    rw [hlen] at hj
    obtain ⟨c1, c2⟩ := h.cell j hj
    rw [Nat.zero_add]
    refine ⟨?_, c2⟩
    unfold encW
    rw [hget j hj]; exact c1
  have hcmp : CmpReads Try.prog 61 #[] encW (cfW (w := w) (B := B) (g := g)) g 0 L.toArray.size w := fun m os dk _ x y =>
    (slCompare_any x.1.1 y.1.1 x.1.2 y.1.2 _ (own_sort os dk x).read (own_sort os dk y).read (by have := x.2.2.2; omega) (by have := y.2.2.2; omega)).mono fun _ _ ⟨a, b⟩ => ⟨a, 0, b.symm⟩
  have hS := Any.slices_SortFunc sortL encW (fun x => by obtain ⟨a, n, c, e⟩ := own_oneCell x.2.1; unfold encW; rw [e]; rfl) cfW (swoW w B g) 61 #[] g 0 cap L.toArray w eg hcmp.lays hH hg (by rw [hlen]; omega)
  rw [hlen] at hS
  change Calls Try.prog 60 _ _ _ at hS
  refine hS.mono ?_
  rintro e w' ⟨rfl, d', m, os, hp, hs, rfl⟩
  have hds : d'.size = l.length := by rw [hp.1, hlen]
  have hgd : ∀ j, j < l.length → (d'[j]!).1 = (d'.toList.map fun x => x.1).getD j (.slice none 0 0, []) := fun j hj => by
    rw [getElem!_pos d' j (by omega), getD_getV _ _ _ (by simpa using (by omega : j < d'.size))]
    simp
  refine ⟨rfl, d'.toList.map (fun x => x.1), ?_, ?_, ⟨fun j hj => ?_, fun p hp' => ?_⟩, grownBy_sortW os d', _, heap_sortW os d' hcur, by simp [putCells], ?_⟩
  · have h2 := hp.2.2
    rw [Array.extract_eq_self_of_le (by omega), Array.extract_eq_self_of_le (by omega)] at h2
    have h3 := h2.map (fun x => x.1)
    rw [hL] at h3
    exact h3
  · unfold OrdV
    rw [List.pairwise_map, List.pairwise_iff_getElem]
    intro i j hi hj hij
    have h2 := hs i j (Nat.zero_le _) hij (by simp at hj; omega)
    rw [getElem!_pos d' j (by simpa using hj), getElem!_pos d' i (by simpa using hi), ltW] at h2
    simpa using h2
  · have hj' : j < l.length := by simp at hj; omega
    have hh := holds_grow encW _ os g 0 d' (by rw [Sort.size_putRow]; exact hg) (holds_putRow encW (Sort.ahead w m) g 0 L.toArray d' hH (by omega)) j (by omega)
    rw [Nat.zero_add] at hh
    refine ⟨?_, hh.2⟩
    rw [← hgd j hj']; exact hh.1
  · rw [List.mem_map] at hp'
    obtain ⟨x, -, rfl⟩ := hp'
    exact ⟨own_sort os d' x, x.2.2⟩
  · rw [← hds, take_putW cur d' (by omega)]; simp [encW]
theorem sortRows_any (B g cap : Nat) (l : List (Value × List Int)) (w : World) (h : Rws w B g l) (hg : g < w.heap.size) (hl : l.length ≤ 1048576) (cur : Array Value) (hcur : w.heap[g]? = some (.cells cur 46 (0, 0))) (hcl : l.length ≤ cur.size) :
    Calls Try.prog 60 #[.slice (some ⟨g, 0, none⟩) l.length cap, .func (.func 61) #[] #[]] w fun e w' =>
      e = .returned (.tuple #[]) ∧ ∃ l', l'.Perm l ∧ OrdV l' ∧ Rws w' B g l' ∧ w.grownBy w' (some g) ∧ ∃ cur', w'.heap[g]? = some (.cells cur' 46 (0, 0)) ∧ cur'.size = cur.size ∧ cur'.toList.take l.length = l'.map (·.1) := by
  by_cases h0 : 0 < l.length
  · exact sortRows_some B g cap l w h hg hl cur hcur hcl h0
  · obtain rfl : l = [] := List.eq_nil_of_length_eq_zero (by omega)
    have hS := AnyF.slices_SortFunc_none (P := Try.prog) (ρ := sortL_ren) { sortL with } (some ⟨g, 0, none⟩) cap (.func (.func 61) #[] #[]) w
    change Calls Try.prog 60 _ _ _ at hS
    refine hS.mono ?_
    rintro e w' ⟨rfl, rfl⟩
    exact ⟨rfl, [], List.Perm.refl _, List.Pairwise.nil, h, ⟨rfl, rfl, rfl, Nat.le_refl _, fun _ _ _ => rfl⟩, cur, hcur, rfl, rfl⟩
end Go.Proofs.Ytkaalgbcdcbgoaa
