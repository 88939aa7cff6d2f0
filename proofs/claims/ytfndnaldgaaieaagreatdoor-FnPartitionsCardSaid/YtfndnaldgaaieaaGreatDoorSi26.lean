/- Texts of this claim, merged: CmpI, SrtV, PrtS, PrtB. Conditions: as stated. -/
import Derived.Test.YtfndnaldgaaieaaGreatDoorSi25
import Derived.Test.YtfndnaldgaaieaaGreatDoorSi5
import Derived.Deep.RegionHeld3
import Derived.RegionTactic
import Derived.Test.YtfndnaldgaaieaaGreatDoorSrtL
import Derived.Test.YtfndnaldgaaieaaGreatDoorSi24
namespace Go.Proofs.YtfndnaldgaaieaaGreatDoor
open Go.RowKit

def cmpI (x y : Int) : Int := if x < y then -1 else if y < x then 1 else 0
theorem isNaN_any (x : Int) (w : World) : Calls Tryz.prog 101 #[.int .i64 x] w fun e w' => e = .returned (.bool false) ∧ w = w' := by
  go_enter Tryz.func101, Tryz.ntmps101
  go_wp2
  go_ret
  exact ⟨ret_b (by simp), rfl⟩
theorem cmpI_any (x y : Int) (w : World) : Calls Tryz.prog 83 #[.int .i64 x, .int .i64 y] w fun e w' => e = .returned (.int .i64 (cmpI x y)) ∧ w = w' := by
  have HN := Lib.hid (fun z w => isNaN_any z w)
  by_cases h1 : x < y
  · have HE : Hid (cmpI x y = -1) := Lib.hid (by unfold cmpI; rw [if_pos h1])
    go_enter Tryz.func83, Tryz.ntmps83
    go_wp2_with (go_at_call 101; refine (HN.out _ _).mono ?_; rintro e w' ⟨rfl, rfl⟩)
    go_ret
    exact ⟨by rw [HE.out]; rfl, rfl⟩
  · by_cases h2 : y < x
    · have HE : Hid (cmpI x y = 1) := Lib.hid (by unfold cmpI; rw [if_neg h1, if_pos h2])
      go_enter Tryz.func83, Tryz.ntmps83
      go_wp2_with (go_at_call 101; refine (HN.out _ _).mono ?_; rintro e w' ⟨rfl, rfl⟩)
      go_ret
      exact ⟨by rw [HE.out]; rfl, rfl⟩
    · have HE : Hid (cmpI x y = 0) := Lib.hid (by unfold cmpI; rw [if_neg h1, if_neg h2])
      go_enter Tryz.func83, Tryz.ntmps83
      go_wp2_with (go_at_call 101; refine (HN.out _ _).mono ?_; rintro e w' ⟨rfl, rfl⟩)
      go_ret
      exact ⟨by rw [HE.out]; rfl, rfl⟩

/-- The order of rows as a number. -/
def cmpL : List Int → List Int → Int
  | [], [] => 0
  | [], _ :: _ => -1
  | _ :: _, [] => 1
  | a :: s, b :: t => if cmpI a b = 0 then cmpL s t else cmpI a b
theorem cmpI_zero {x y : Int} : cmpI x y = 0 ↔ x = y := by
  unfold cmpI
  split
  · constructor <;> (intro; omega)
  · split
    · constructor <;> (intro; omega)
    · constructor <;> (intro; omega)
theorem cmpL_less : ∀ (a b : List Int), decide (cmpL a b < 0) = lessR a b
  | [], [] => rfl
  | [], _ :: _ => rfl
  | _ :: _, [] => rfl
  | a :: s, b :: t => by
    unfold cmpL lessR
    by_cases h : a = b
    · rw [if_pos (cmpI_zero.2 h), if_pos h]; exact cmpL_less s t
    · rw [if_neg (fun e => h (cmpI_zero.1 e)), if_neg h]
      unfold cmpI
      by_cases h1 : a < b
      · simp [h1]
      · rw [if_neg h1, if_pos (by omega)]; simp [h1]
theorem cmpL_drop {a b : List Int} {k : Nat} (h1 : k < a.length) (h2 : k < b.length) : cmpL (a.drop k) (b.drop k) = if cmpI a[k] b[k] = 0 then cmpL (a.drop (k + 1)) (b.drop (k + 1)) else cmpI a[k] b[k] := by
  rw [List.drop_eq_getElem_cons h1, List.drop_eq_getElem_cons h2]; rfl

set_option maxHeartbeats 800000 in
theorem slCompare_any (v v' : Value) (l l' : List Int) (w : World) (hr : ReadI w v l) (hr' : ReadI w v' l') (hl : l.length ≤ 1000000000) (hl' : l'.length ≤ 1000000000) :
    Calls Tryz.prog 62 #[v, v'] w fun e w' => e = .returned (.int .i64 (cmpL l l')) ∧ w = w' := by
  obtain ⟨a, cap, rfl, ha⟩ := hr
  obtain ⟨a', cap', rfl, ha'⟩ := hr'
  have HA := Lib.hid ha
  have HA' := Lib.hid ha'
  clear ha ha'
  have HC := Lib.hid (fun x y w => cmpI_any x y w)
  go_enter Tryz.func62, Tryz.ntmps62
  go_wp2_with fail
  go_loop [11] (fun iv => ∃ (k : Nat), k ≤ l.length ∧ k ≤ l'.length ∧ iv = .int .i64 (k : Int) ∧ Hid (cmpL l l' = cmpL (l.drop k) (l'.drop k))) (fun iv => l.length - (intOf iv).toNat)
  case atStart => exact ⟨0, by omega, by omega, rfl, Lib.hid (by simp)⟩
  case round =>
    obtain ⟨k, hk, hk', rfl, hsame⟩ := hrel
    by_cases hlt : k < l.length
    · obtain ⟨x, rfl, hx⟩ := HA.out k hlt
      have z0 : (0 : Int) ≤ (k : Int) := by omega
      have z1 : (k : Int) < (l.length : Int) := by omega
      by_cases hlt' : k < l'.length
      · obtain ⟨x', rfl, hx'⟩ := HA'.out k hlt'
        have z2 : (k : Int) < (l'.length : Int) := by omega
        have z3 : ¬ (l'.length : Int) ≤ (k : Int) := by omega
        have HS := Lib.hid (cmpL_drop hlt hlt')
        obtain ⟨y, hy⟩ : ∃ y, l[k] = y := ⟨_, rfl⟩
        obtain ⟨y', hy'⟩ : ∃ y', l'[k] = y' := ⟨_, rfl⟩
        rw [hy, hy'] at HS
        rw [hy] at hx
        rw [hy'] at hx'
        clear hy hy'
        have HQ := Lib.hid (cmpI_any y y' w)
        by_cases he : cmpI y y' = 0
        · rw [he] at HQ
          have HE := Lib.hid he
          clear he
          go_wp2_with fail
          refine HQ.out.mono ?_
          rintro e w' ⟨rfl, rfl⟩
          go_wp2_with fail
          go_round
          case rel => exact ⟨k + 1, by omega, by omega, by go_num, Lib.hid (by rw [hsame.out, HS.out, if_pos HE.out])⟩
          case measure => simp [intOf]; omega
        · have HE := Lib.hid he
          obtain ⟨z, hz⟩ : ∃ z, cmpI y y' = z := ⟨_, rfl⟩
          have hn : (z != 0) = true := by rw [← hz]; simpa using he
          have HZ := Lib.hid hz
          rw [hz] at HQ
          clear he hz
          go_wp2_with fail
          refine HQ.out.mono ?_
          rintro e w' ⟨rfl, rfl⟩
          go_wp2_with fail
          go_ret
          exact ⟨by rw [hsame.out, HS.out, if_neg HE.out, HZ.out]; rfl, rfl⟩
      · have z3 : (l'.length : Int) ≤ (k : Int) := by omega
        go_wp2_with fail
        go_ret
        exact ⟨by rw [hsame.out, List.drop_eq_getElem_cons hlt, List.drop_of_length_le (by omega : l'.length ≤ k)]; rfl, rfl⟩
    · by_cases hlt' : l.length < l'.length
      · have z3 : (l.length : Int) < (l'.length : Int) := by omega
        have HK : Hid (k = l.length) := Lib.hid (by omega)
        go_wp2_with fail
        go_ret
        exact ⟨by rw [hsame.out, List.drop_of_length_le (by have := HK.out; omega : l.length ≤ k), List.drop_eq_getElem_cons (by have := HK.out; omega : k < l'.length)]; rfl, rfl⟩
      · have z3 : ¬ (l.length : Int) < (l'.length : Int) := by omega
        have HK : Hid (k = l.length) := Lib.hid (by omega)
        go_wp2_with fail
        go_ret
        exact ⟨by rw [hsame.out, List.drop_of_length_le (by have := HK.out; omega : l.length ≤ k), List.drop_of_length_le (by omega : l'.length ≤ k)]; rfl, rfl⟩
end Go.Proofs.YtfndnaldgaaieaaGreatDoor
namespace Go.Proofs.YtfndnaldgaaieaaGreatDoor
open Go.RowKit Go.Sort Go.Shelf

/-- The first cells of block g hold the slices l, each of a row of its own from block B on, none of them in g. -/
structure Rws (w : World) (B g : Nat) (l : List (Value × List Int)) : Prop where
  cell : ∀ j, j < l.length → w.cell? ⟨g, j, none⟩ = some (l.getD j (.slice none 0 0, [])).1 ∧ w.frozen? ⟨g, j, none⟩ = false
  recs : ∀ p ∈ l, OwnI w B p.1 p.2 ∧ p.1.ownBlock ≠ some g ∧ p.2.length ≤ 1048576
theorem getD_memV {α : Type} (l : List α) (j : Nat) (d : α) (h : j < l.length) : l.getD j d ∈ l := by rw [List.getD_eq_getElem?_getD, List.getElem?_eq_getElem h]; exact List.getElem_mem _
theorem getD_getV {α : Type} (l : List α) (j : Nat) (d : α) (h : j < l.length) : l.getD j d = l[j] := by rw [List.getD_eq_getElem?_getD, List.getElem?_eq_getElem h]; rfl
/-- Slices that may be sorted. -/
structure RecW (w : World) (B g : Nat) where
  val : Value × List Int
  ok : OwnI w B val.1 val.2 ∧ val.1.ownBlock ≠ some g ∧ val.2.length ≤ 1048576
def encW {w : World} {B g : Nat} (x : RecW w B g) : Value := x.1.1
def cfW {w : World} {B g : Nat} (x y : RecW w B g) : Int := cmpL x.1.2 y.1.2
theorem ltW {w : World} {B g : Nat} (x y : RecW w B g) : ltOf cfW x y = lessR x.1.2 y.1.2 := cmpL_less _ _
theorem lessR_ntransV {a b c : List Int} (h1 : lessR a b = false) (h2 : lessR b c = false) : lessR a c = false := by
  cases h : lessR a c with
  | false => rfl
  | true =>
    cases h3 : lessR c b with
    | true => rw [lessR_trans _ _ _ h h3] at h1; cases h1
    | false => rw [lessR_total _ _ h2 h3] at h1; rw [h1] at h; cases h
theorem swoW (w : World) (B g : Nat) : SWO (ltOf (cfW (w := w) (B := B) (g := g))) where
  irrefl x := by rw [ltW]; exact lessR_irrefl _
  trans x y z h1 h2 := by rw [ltW] at *; exact lessR_trans _ _ _ h1 h2
  ntrans x y z h1 h2 := by rw [ltW] at *; exact lessR_ntransV h1 h2
theorem grownBy_sortW {w : World} {B g m : Nat} [Inhabited (RecW w B g)] (os : Array Obj) (d : Array (RecW w B g)) : w.grownBy (sortWorld encW w g 0 m d os) (some g) := by
  unfold sortWorld
  refine ⟨rfl, rfl, rfl, by rw [size_grow, Sort.size_putRow]; exact Nat.le_add_right _ _, fun k hk hne => ?_⟩
  rw [heap_grow_old _ _ (by rw [Sort.size_putRow]; exact hk)]
  have : g ≠ k := fun e => hne (by rw [e])
  simp [putRow, mapBlock, Sort.ahead, Array.getElem?_modify, this]
theorem heap_sortW {w : World} {B g m : Nat} [Inhabited (RecW w B g)] {cur : Array Value} {e : TypeId} {fr : Nat × Nat} (os : Array Obj) (d : Array (RecW w B g)) (hb : w.heap[g]? = some (.cells cur e fr)) :
    (sortWorld encW w g 0 m d os).heap[g]? = some (.cells (putCells encW 0 d cur) e fr) := by
  have hg : g < w.heap.size := (Array.getElem?_eq_some_iff.1 hb).1
  unfold sortWorld
  rw [heap_grow_old _ _ (by simpa using hg)]
  simp [putRow, mapBlock, Sort.ahead, Array.getElem?_modify, hb, onCells]
theorem take_putW {w : World} {B g : Nat} [Inhabited (RecW w B g)] (cur : Array Value) (d : Array (RecW w B g)) (h : d.size ≤ cur.size) : (putCells encW 0 d cur).toList.take d.size = d.toList.map encW := by
  apply List.ext_getElem?
  intro j
  by_cases hj : j < d.size
  · rw [List.getElem?_take_of_lt hj, Array.getElem?_toList]
    simp [putCells, hj, show j < cur.size by omega]
  · rw [List.getElem?_take_eq_none (by omega), List.getElem?_eq_none (by simp; omega)]
theorem own_sort {w : World} {B g m : Nat} [Inhabited (RecW w B g)] (os : Array Obj) (dk : Array (RecW w B g)) (x : RecW w B g) : OwnI (sortWorld encW w g 0 m dk os) B x.1.1 x.1.2 :=
  OwnI.keptBy x.2.1 (grownBy_sortW os dk) (fun k hk => by cases hk; exact x.2.2.1)
theorem own_oneCell {w : World} {B : Nat} {v : Value} {l : List Int} (h : OwnI w B v l) : ∃ a n c, v = .slice a n c := by
  rcases h.shape with ⟨rfl, -⟩ | ⟨g, cap, rfl, -⟩ <;> exact ⟨_, _, _, rfl⟩
/-- In order: none is less than one before it. -/
def OrdV (l : List (Value × List Int)) : Prop := l.Pairwise fun p q => lessR q.2 p.2 = false
set_option maxHeartbeats 800000 in
theorem sortRows_some (B g cap : Nat) (l : List (Value × List Int)) (w : World) (h : Rws w B g l) (hg : g < w.heap.size) (hl : l.length ≤ 1048576) (cur : Array Value) (hcur : w.heap[g]? = some (.cells cur 50 (0, 0))) (hcl : l.length ≤ cur.size) (h0 : 0 < l.length) :
    Calls Tryz.prog 61 #[.slice (some ⟨g, 0, none⟩) l.length cap, .func (.func 62) #[] #[]] w fun e w' =>
      e = .returned (.tuple #[]) ∧ ∃ l', l'.Perm l ∧ OrdV l' ∧ Rws w' B g l' ∧ w.grownBy w' (some g) ∧ ∃ cur', w'.heap[g]? = some (.cells cur' 50 (0, 0)) ∧ cur'.size = cur.size ∧ cur'.toList.take l.length = l'.map (·.1) := by
  haveI : Inhabited (RecW w B g) := ⟨⟨l.getD 0 (.slice none 0 0, []), h.recs _ (getD_memV _ _ _ h0)⟩⟩
  have eg : ∀ args w, (callFunc 62 args).run Tryz.prog w = .ok (.enter 62 args) w := enters_of Tryz.func62 (by kernel_rfl) rfl
  obtain ⟨L, hL⟩ : ∃ L : List (RecW w B g), L.map (fun x => x.1) = l := ⟨l.attach.map fun p => ⟨p.1, h.recs p.1 p.2⟩, by
    rw [List.map_map]; exact List.attach_map_subtype_val l⟩
  have hlen : L.toArray.size = l.length := by rw [← hL]; simp
  have hget : ∀ j, j < l.length → (L.toArray[j]!).1 = l.getD j (.slice none 0 0, []) := fun j hj => by
    have hj' : j < L.length := by simpa using (by rw [hlen]; exact hj : j < L.toArray.size)
    rw [getElem!_pos L.toArray j (by rw [hlen]; exact hj), getD_getV _ _ _ hj]
    simp [← hL]
  have hH : Holds encW w g 0 L.toArray := fun j hj => by
    rw [hlen] at hj
    obtain ⟨c1, c2⟩ := h.cell j hj
    rw [Nat.zero_add]
    refine ⟨?_, c2⟩
    unfold encW
    rw [hget j hj]; exact c1
  have hcmp : CmpReads Tryz.prog 62 #[] encW (cfW (w := w) (B := B) (g := g)) g 0 L.toArray.size w := fun m os dk _ x y =>
    (slCompare_any x.1.1 y.1.1 x.1.2 y.1.2 _ (own_sort os dk x).read (own_sort os dk y).read (by have := x.2.2.2; omega) (by have := y.2.2.2; omega)).mono fun _ _ ⟨a, b⟩ => ⟨a, 0, b.symm⟩
  have hS := Any.slices_SortFunc sortL encW (fun x => by obtain ⟨a, n, c, e⟩ := own_oneCell x.2.1; unfold encW; rw [e]; rfl) cfW (swoW w B g) 62 #[] g 0 cap L.toArray w eg hcmp.lays hH hg (by rw [hlen]; omega)
  rw [hlen] at hS
  change Calls Tryz.prog 61 _ _ _ at hS
  refine hS.mono ?_
  rintro e w' ⟨rfl, d', m, os, hp, hs, rfl⟩
  have hds : d'.size = l.length := by rw [hp.1, hlen]
  have hgd : ∀ j, j < l.length → (d'[j]!).1 = (d'.toList.map fun x => x.1).getD j (.slice none 0 0, []) := fun j hj => by
    rw [getElem!_pos d' j (by omega), getD_getV _ _ _ (by simpa using (by omega : j < d'.size))]
    simp
  refine ⟨rfl, d'.toList.map (fun x => x.1), ?_, ?_, ⟨fun j hj => ?_, fun p hp' => ?_⟩, grownBy_sortW os d', _, heap_sortW os d' hcur, by simp [putCells], ?_⟩
  · have h2 := hp.2.2
    rw [Array.extract_eq_self_of_le (by omega), Array.extract_eq_self_of_le (by omega)] at h2
    have h3 := h2.map (fun x => x.1)
    rw [hL] at h3
    exact h3
  · unfold OrdV
    rw [List.pairwise_map, List.pairwise_iff_getElem]
    intro i j hi hj hij
    have h2 := hs i j (Nat.zero_le _) hij (by simp at hj; omega)
    rw [getElem!_pos d' j (by simpa using hj), getElem!_pos d' i (by simpa using hi), ltW] at h2
    simpa using h2
  · have hj' : j < l.length := by simp at hj; omega
    have hh := holds_grow encW _ os g 0 d' (by rw [Sort.size_putRow]; exact hg) (holds_putRow encW (Sort.ahead w m) g 0 L.toArray d' hH (by omega)) j (by omega)
    rw [Nat.zero_add] at hh
    refine ⟨?_, hh.2⟩
    rw [← hgd j hj']; exact hh.1
  · rw [List.mem_map] at hp'
    obtain ⟨x, -, rfl⟩ := hp'
    exact ⟨own_sort os d' x, x.2.2⟩
  · rw [← hds, take_putW cur d' (by omega)]; simp [encW]
theorem sortRows_any (B g cap : Nat) (l : List (Value × List Int)) (w : World) (h : Rws w B g l) (hg : g < w.heap.size) (hl : l.length ≤ 1048576) (cur : Array Value) (hcur : w.heap[g]? = some (.cells cur 50 (0, 0))) (hcl : l.length ≤ cur.size) :
    Calls Tryz.prog 61 #[.slice (some ⟨g, 0, none⟩) l.length cap, .func (.func 62) #[] #[]] w fun e w' =>
      e = .returned (.tuple #[]) ∧ ∃ l', l'.Perm l ∧ OrdV l' ∧ Rws w' B g l' ∧ w.grownBy w' (some g) ∧ ∃ cur', w'.heap[g]? = some (.cells cur' 50 (0, 0)) ∧ cur'.size = cur.size ∧ cur'.toList.take l.length = l'.map (·.1) := by
  by_cases h0 : 0 < l.length
  · exact sortRows_some B g cap l w h hg hl cur hcur hcl h0
  · obtain rfl : l = [] := List.eq_nil_of_length_eq_zero (by omega)
    have hS := AnyF.slices_SortFunc_none (P := Tryz.prog) (ρ := sortL_ren) { sortL with } (some ⟨g, 0, none⟩) cap (.func (.func 62) #[] #[]) w
    change Calls Tryz.prog 61 _ _ _ at hS
    refine hS.mono ?_
    rintro e w' ⟨rfl, rfl⟩
    exact ⟨rfl, [], List.Perm.refl _, List.Pairwise.nil, h, ⟨rfl, rfl, rfl, Nat.le_refl _, fun _ _ _ => rfl⟩, cur, hcur, rfl, rfl⟩
end Go.Proofs.YtfndnaldgaaieaaGreatDoor
namespace Go.Proofs.YtfndnaldgaaieaaGreatDoor
open Go.RowKit Go.Sort Go.Shelf

set_option maxHeartbeats 800000 in
theorem sortOwn_any (B C : Nat) (v : Value) (P : List (Value × List Int)) (w : World) (hown : w.ownsRow C 50 1 v P.length (P.map (·.1))) (hP : ∀ p ∈ P, OwnI w B p.1 p.2 ∧ (∀ k, p.1.ownBlock = some k → k < C) ∧ p.2.length ≤ 1048576) (hl : P.length ≤ 1048576) :
    Calls Tryz.prog 61 #[v, .func (.func 62) #[] #[]] w fun e w' =>
      e = .returned (.tuple #[]) ∧ ∃ P', P'.Perm P ∧ OrdV P' ∧ w'.ownsRow C 50 1 v P'.length (P'.map (·.1)) ∧ (∀ p ∈ P', OwnI w' B p.1 p.2 ∧ (∀ k, p.1.ownBlock = some k → k < C)) ∧ Below C w w' := by
  rcases hown.2 with ⟨rfl, h0⟩ | ⟨g, cap, cur, rfl, hg, hcur, hc1, hc2, hc3, hc4⟩
  · obtain rfl : P = [] := List.eq_nil_of_length_eq_zero h0
    have hS := AnyF.slices_SortFunc_none (P := Tryz.prog) (ρ := sortL_ren) { sortL with } none 0 (.func (.func 62) #[] #[]) w
    change Calls Tryz.prog 61 _ _ _ at hS
    refine hS.mono ?_
    rintro e w' ⟨rfl, rfl⟩
    exact ⟨rfl, [], List.Perm.refl _, List.Pairwise.nil, hown, (fun p hp => by cases hp), Below.refl _ _⟩
  · have hgs : g < w.heap.size := (Array.getElem?_eq_some_iff.1 hcur).1
    have hapart : ∀ p ∈ P, p.1.ownBlock ≠ some g := fun p hp e => by have := (hP p hp).2.1 g e; omega
    rw [Nat.mul_one] at hc3 hc4
    have hR : Rws w B g P := by
      refine ⟨fun j hj => ⟨?_, ?_⟩, fun p hp => ⟨(hP p hp).1, hapart p hp, (hP p hp).2.2⟩⟩
      · rw [World.ownsRow.cellAt hown j (by omega), List.getElem?_map, List.getElem?_eq_getElem hj, getD_getV _ _ _ hj]; rfl
      · exact World.ownsRow.frozenAt hown j
    refine (sortRows_any B g cap P w hR hgs hl cur hcur (by omega)).mono ?_
    rintro e w' ⟨rfl, P', hp, ho, hR', hgr, cur', hcur', hcs, hct⟩
    have hlen := hp.length_eq
    refine ⟨rfl, P', hp, ho, ⟨by simp, .inr ⟨g, cap, cur', by rw [hlen], hg, hcur', by omega, hc2, by omega, by rw [Nat.mul_one, hlen]; exact hct⟩⟩, fun p hpm => ⟨(hR'.recs p hpm).1, (hP p (hp.mem_iff.1 hpm)).2.1⟩, ?_⟩
    exact (Below.refl _ _).grown hgr (by omega) (fun k hk => by cases hk; exact hg)
end Go.Proofs.YtfndnaldgaaieaaGreatDoor
namespace Go.Proofs.YtfndnaldgaaieaaGreatDoor
open Go.RowKit
open Go.Maps (Keyed)

theorem own_sliceP {w : World} {B : Nat} {v : Value} {l : List Int} (h : OwnI w B v l) : ∃ a c, v = .slice a l.length c := by
  rcases h.shape with ⟨rfl, e⟩ | ⟨g, cap, rfl, -⟩
  · exact ⟨none, 0, by rw [e]; rfl⟩
  · exact ⟨_, _, rfl⟩
/-- What is known of an entry that has come. -/
theorem PhA.come {w wr : World} {b n B : Nat} {D D' : DataW Value} {V : List Int → Value} {g : List Int → List Int} {left : Lit → Bool} (h : PhA D D' V g left) (h1 : MapR w b n D) (hgr : w.grownBy wr (some b)) {x : List Int} (hx : R5 x)
    (hO : OwnI w B (V x) (g x)) (hL : ∀ y, R5 y → left (klR y) = true → Maps.has D (klR y) = true) (hl : left (klR x) = true) {v : Value} (hat : ∀ zd, D'.atKey (klR x) zd = .held v) : v = V x ∧ OwnI wr B v (g x) := by
  obtain ⟨e1, e2⟩ := h.2 x hx
  rw [hl, hL x hx hl] at e1
  have e3 := e2 (by simpa using e1) (.held nilS)
  rw [hat] at e3
  cases e3
  exact ⟨rfl, OwnI.keptBy hO hgr (fun k hk => by cases hk; exact map_apart h1 hO)⟩

theorem iter_apart {w : World} {b r n : Nat} {D : DataW Value} {left : Lit → Bool} {cnt B m : Nat} {E : TypeId} {v : Value} {xs : List Value} (h : w.ranges Tryz.prog 59 tokS b r n D left cnt) (h' : w.ownsRow B E 1 v m xs) : some b ≠ v.ownBlock ∧ some r ≠ v.ownBlock := by
  obtain ⟨es, clock, since, seen, c0, hb, -, -, -, hr, -⟩ := h
  rcases h'.2 with ⟨rfl, _⟩ | ⟨g, cap, cur, rfl, hB, hgg, rest⟩
  · exact ⟨(fun e => by cases e), (fun e => by cases e)⟩
  · refine ⟨fun e => ?_, fun e => ?_⟩
    · cases e; rw [hb] at hgg; cases hgg
    · cases e; rw [hr] at hgg; cases hgg
theorem ownsRow_down {w : World} {base base' : Nat} {e : TypeId} {size : Nat} {v : Value} {n : Nat} {xs : List Value} (h : w.ownsRow base e size v n xs) (hb : base' ≤ base) : w.ownsRow base' e size v n xs := by
  refine ⟨h.1, ?_⟩
  rcases h.2 with h' | ⟨g, cap, cur, e1, hB, rest⟩
  · exact .inl h'
  · exact .inr ⟨g, cap, cur, e1, Nat.le_trans hb hB, rest⟩
/-- What partition leaves: the groups of at least two rows, in order. -/
def RetP (B : Nat) (g : List Int → List Int) (w : World) (e : Ending) (w' : World) : Prop :=
  ∃ (v : Value) (L rs : List (List Int)), e = .returned v ∧ OwnSS w' B w'.heap.size v L ∧ L.Perm (rs.map g) ∧ L.Pairwise (fun p q => lessR q p = false) ∧ rs.Nodup ∧ (∀ x ∈ rs, R5 x) ∧ (∀ x, R5 x → (x ∈ rs ↔ 2 ≤ (g x).length)) ∧ Below B w w'
theorem OwnSS.ofP {w : World} {B C : Nat} {v : Value} {P : List (Value × List Int)} (h1 : w.ownsRow B 50 1 v P.length (P.map (·.1))) (hC : ∀ g, v.ownBlock = some g → g < C)
    (h2 : ∀ p ∈ P, OwnI w B p.1 p.2 ∧ ∀ g, p.1.ownBlock = some g → g < C) (h3 : P.Pairwise (fun x y => ∀ g, x.1.ownBlock = some g → y.1.ownBlock ≠ some g)) : OwnSS w B C v (P.map (·.2)) := by
  have hg : ∀ i (h : i < P.length), (P.getD i (undef, [])) = P[i] := fun i h => by rw [List.getD_eq_getElem?_getD, List.getElem?_eq_getElem h]; rfl
  have hg2 : ∀ i (h : i < P.length), (P.map (·.2)).getD i [] = P[i].2 := fun i h => by rw [List.getD_eq_getElem?_getD, List.getElem?_eq_getElem (by simpa using h)]; simp
  refine ⟨fun i => (P.getD i (undef, [])).1, ?_, hC, fun i hi => ?_, fun i j hij hj g => ?_⟩
  · have e : (List.range (P.map (·.2)).length).map (fun i => (P.getD i (undef, [])).1) = P.map (·.1) := by
      apply List.ext_getElem
      · simp
      · intro i k1 k2
        simp only [List.length_map] at k2
        rw [List.getElem_map, List.getElem_range, List.getElem_map, hg i k2]
    rw [e, List.length_map]; exact h1
  · rw [List.length_map] at hi
    show OwnI w B (P.getD i (undef, [])).1 _ ∧ ∀ g, (P.getD i (undef, [])).1.ownBlock = some g → g < C
    rw [hg i hi, hg2 i hi]
    exact h2 _ (List.getElem_mem hi)
  · rw [List.length_map] at hj
    show (P.getD i (undef, [])).1.ownBlock = some g → (P.getD j (undef, [])).1.ownBlock ≠ some g
    rw [hg i (by omega), hg j hj]
    exact (List.pairwise_iff_getElem.1 h3) i j (by omega) hj hij g
/-- The classes in any order, the slices and the rows side by side. -/
def prs (V : List Int → Value) (g : List Int → List Int) (rs : List (List Int)) : List (Value × List Int) := rs.map fun r => (V r, g r)
theorem prs_fst (V : List Int → Value) (g : List Int → List Int) (rs : List (List Int)) : (prs V g rs).map (·.1) = rs.map V := by unfold prs; rw [List.map_map]; rfl
theorem prs_snd (V : List Int → Value) (g : List Int → List Int) (rs : List (List Int)) : (prs V g rs).map (·.2) = rs.map g := by unfold prs; rw [List.map_map]; rfl
theorem prs_apart {V : List Int → Value} {g : List Int → List Int} {rs : List (List Int)} (h5 : ∀ r r', R5 r → R5 r' → r ≠ r' → ∀ k, (V r).ownBlock = some k → (V r').ownBlock ≠ some k) (hn : rs.Nodup) (h : ∀ x ∈ rs, R5 x) :
    (prs V g rs).Pairwise (fun x y => ∀ g, x.1.ownBlock = some g → y.1.ownBlock ≠ some g) := by
  unfold prs
  rw [List.pairwise_map]
  exact hn.imp_of_mem fun {a b} ha hb hne => h5 a b (h a ha) (h b hb) hne
theorem part_end {w wr w' : World} {B b : Nat} {D' : DataW Value} {V : List Int → Value} {g : List Int → List Int} {rs : List (List Int)} {v : Value} {P' : List (Value × List Int)} {left : Lit → Bool} (hB : B ≤ w.heap.size) (h2 : B ≤ b)
    (h5 : ∀ r r', R5 r → R5 r' → r ≠ r' → ∀ k, (V r).ownBlock = some k → (V r').ownBlock ≠ some k)
    (hD : ∀ x, R5 x → Maps.has D' (klR x) = decide (2 ≤ (g x).length) ∧ (Maps.has D' (klR x) = true → ∀ zd, D'.atKey (klR x) zd = .held (V x))) (hPB : PhB D' left rs) (hl : ∀ kl, left kl = false) (hgr : w.grownBy wr (some b))
    (hp : P'.Perm (prs V g rs)) (ho : OrdV P') (hown : w'.ownsRow w.heap.size 50 1 v P'.length (P'.map (·.1))) (hP : ∀ p ∈ P', OwnI w' B p.1 p.2 ∧ (∀ k, p.1.ownBlock = some k → k < w.heap.size)) (hb : Below w.heap.size wr w') : RetP B g w (.returned v) w' := by
  have hw' := hgr.size
  have hw2 := hb.size
  have hbb := hPB.2.1
  refine ⟨v, P'.map (·.2), rs, rfl, OwnSS.ofP (ownsRow_down hown hB) (fun k hk => (World.ownsRow.lt hown k hk).2) (fun p hpm => ⟨(hP p hpm).1, fun k hk => by have := (hP p hpm).2 k hk; omega⟩) ?_, ?_, ?_, hPB.1, fun x hx => (hbb x hx).1, fun x hx => ?_, ?_⟩
  · exact (hp.pairwise_iff (fun {x y} h k hx hy => h k hy hx)).2 (prs_apart h5 hPB.1 (fun x hx => (hbb x hx).1))
  · rw [← prs_snd V g rs]; exact hp.map _
  · rw [List.pairwise_map]; exact ho
  · rw [hPB.stop hl x hx, (hD x hx).1, decide_eq_true_eq]
  · exact ((Below.refl B w).grown hgr hB (fun j hj => by cases hj; exact h2)).trans (hb.mono hB)
set_option maxRecDepth 20000 in
set_option maxHeartbeats 3200000 in
theorem partition_any (B b n : Nat) (g : List Int → List Int) (w : World) (h : Grp w B b n g) (hn : n ≤ 1048576) (hl : ∀ r, (g r).length ≤ 1048576) (hB : B ≤ w.heap.size) :
    Calls Tryz.prog 34 #[.map (some b)] w (RetP B g w) := by
  obtain ⟨D, V, h1, h2, h3, h4, h5⟩ := h
  have hown : MapS w b n D := toS h1 fun r hr v hv => by
    have e := (h3 r hr).1
    rw [hv] at e; cases e
    obtain ⟨a, c, e⟩ := own_sliceP (h3 r hr).2
    exact ⟨a, _, c, e⟩
  have hp0 := PhA.start (g := g) h1 (fun r hr => (h3 r hr).1)
  have hbw := World.ownsMap.lt h1
  obtain ⟨j0, hj, hy0, hy1, hy2⟩ := info_parts infoSj
  have HJ : Hid (_ ∧ _ ∧ _ ∧ _) := Lib.hid ⟨hj, hy0, hy1, hy2⟩
  clear hj hy0 hy1 hy2
  have H1 := Lib.hid h1
  have H3 := Lib.hid h3
  have H4 := Lib.hid h4
  have H5 := Lib.hid h5
  have HL := Lib.hid hl
  clear h1 h3 h4 h5 hl
  go_enter Tryz.func34, Tryz.ntmps34
  go_wp2_with (first
    | (at_range; refine wpList_range_own _ rfl _ 54 rfl 59 50 keyR Tryz.underlying54 tokS b n D rfl hown ?_; intro w0 hrg0 hg0 hs0))
  go_frame
  go_loopw [] (fun wr => ∃ left cnt D', wr.ranges Tryz.prog 59 tokS b w.heap.size n D' left cnt ∧ Hid (PhA D D' V g left) ∧ w.grownBy wr (some b) ∧ Hid (∀ y, R5 y → left (klR y) = true → Maps.has D (klR y) = true)) (fun wr => wr.rangeLeft b w.heap.size)
  case atStart => exact ⟨_, _, D, hrg0, Lib.hid hp0, hg0.but _, Lib.hid (fun y _ h => h)⟩
  case round =>
    clear hrg0 hg0 hs0 hp0 hown
    obtain ⟨left, cnt, D', hrg, HP, hgr, HLE⟩ := hrel
    obtain ⟨w9, hw9⟩ : ∃ w', w' = wr := ⟨_, rfl⟩
    rw [← hw9] at hrg hgr ⊢
    clear hw9
    have hr9 := hrg.lt
    go_wp2_with (first | (at_next; refine mapS_next _ rfl _ rfl b w.heap.size n D' left cnt rfl hrg ?_ ?_))
    · intro hc0 hl0
      have HD := Lib.hid (HP.out.stop hl0 H4.out)
      have hown2 := hrg.owns
      have HGR := Lib.hid hgr
      have hsz2 := hgr.size
      have hsd := hown2.size_le
      clear hrg hgr HP HLE hl0 hc0
      go_wp2_with (first
        | (at_len; refine wpList_len_own _ rfl _ 54 rfl 59 50 Tryz.underlying54 tokS b n D' rfl hown2 ?_)
        | (at_make; refine wpList_make_own _ rfl _ _ 24 rfl w.heap.size 50 j0 (.slice none 0 0) 1 Tryz.underlying24 HJ.out.1 HJ.out.2.1 HJ.out.2.2.1 .i64 .i64 _ (Maps.size D') rfl rfl rfl (by rw [HJ.out.2.2.2]; omega) (by unfold maxLen; omega) hsz2 ?_
           intro w3 hown3 hgr3
           have hown4 := hown2.kept hgr3 (by simp))
        | (at_range; refine wpList_range_own _ rfl _ 54 rfl 59 50 keyR Tryz.underlying54 tokS b n D' rfl hown4 ?_; intro w4 hrg4 hg4 hs4))
      go_frame
      have HGR4 := Lib.hid ((HGR.out.andThen hgr3 (fun j hj => by cases hj)).andThen hg4 (fun j hj => by cases hj))
      have HO4 := Lib.hid (World.ownsRow.kept hown3 hg4 (.inr (fun e => by cases e)))
      have hw93 := hgr3.size
      clear hown2 hown4 hgr3 hown3 hg4
      go_loopw [5] (fun cv wr => ∃ left cnt rs, wr.ranges Tryz.prog 59 tokS b w3.heap.size n D' left cnt ∧ Hid (PhB D' left rs) ∧ Hid (wr.ownsRow w.heap.size 50 1 cv rs.length (rs.map V)) ∧ Hid (w.grownBy wr (some b)) ∧ rs.length + cnt ≤ 1048576) (fun _ wr => wr.rangeLeft b w3.heap.size)
      case atStart => exact ⟨_, _, [], hrg4, Lib.hid (PhB.start D'), HO4, HGR4, by simp; omega⟩
      case round =>
        clear hrg4 hs4 HGR4 HO4
        obtain ⟨left, cnt, rs, hrg, HPB, HO, HGR, hrc⟩ := hrel
        obtain ⟨w5, hw5⟩ : ∃ w', w' = wr := ⟨_, rfl⟩
        rw [← hw5] at hrg HO HGR ⊢
        clear hw5
        have h5s := hrg.lt
        have hww := HGR.out.size
        obtain ⟨cv, hcv⟩ : ∃ cv, cv = u5 := ⟨_, rfl⟩
        rw [← hcv] at HO ⊢
        clear hcv
        go_wp2_with (first | (at_next; refine mapS_next _ rfl _ rfl b w3.heap.size n D' left cnt rfl hrg ?_ ?_))
        · intro hc0 hl0
          have hown5 : w5.ownsRow w.heap.size 50 1 cv (prs V g rs).length ((prs V g rs).map (·.1)) := by rw [prs_fst, show (prs V g rs).length = rs.length by simp [prs]]; exact HO.out
          have HS := Lib.hid (sortOwn_any B w.heap.size cv (prs V g rs) w5 hown5 (fun p hp => by
            unfold prs at hp
            obtain ⟨x, hx, rfl⟩ := List.mem_map.1 hp
            have hx5 := (HPB.out.2.1 x hx).1
            have ho := (H3.out x hx5).2
            exact ⟨OwnI.keptBy ho HGR.out (fun k hk => by cases hk; exact map_apart H1.out ho), fun k hk => (ho.lt k hk).2, HL.out x⟩) (by simp [prs]; omega))
          have HL0 := Lib.hid hl0
          clear hown5 hl0 hrg
          go_wp2_with fail
          refine HS.out.mono ?_
          rintro e w6 ⟨rfl, P', hp, ho, hown6, hP6, hb6⟩
          have HE := Lib.hid (part_end hB h2 H5.out HD.out HPB.out HL0.out HGR.out hp ho hown6 hP6 hb6)
          clear hp ho hown6 hP6 hb6
          go_wp2_with fail
          go_ret
          exact HE.out
        · intro a0 a1 a2 a3 a4 ad m c w1 cnt1 hR hleft hat hrg1 hlt hg1 hs1 hen
          have hPB := HPB.out.step hR hleft
          have hhas : Maps.has D' (klR [a0, a1, a2, a3, a4]) = true := (hPB.2.1 _ (by simp)).2
          have hV : V [a0, a1, a2, a3, a4] = .slice ad m c := by
            have e := (HD.out _ hR).2 hhas (.held nilS)
            rw [hat] at e
            exact (DataW.held.inj e).symm
          have HPB2 := Lib.hid hPB
          have HRG := Lib.hid hrg
          obtain ⟨ia, ib⟩ := iter_apart hrg HO.out
          have hcn : cv.ownBlock ≠ some w3.heap.size := fun e => ib e.symm
          have ho1 := World.ownsRow.kept HO.out hg1 (.inr hcn)
          have HO1 := Lib.hid ho1
          obtain ⟨ja, jb⟩ := iter_apart hrg1 ho1
          have HJA := Lib.hid ja
          have HJB := Lib.hid jb
          have hgr1 := HGR.out.andThen hg1 (fun j hj => by cases hj; exact .inl (by omega))
          have HG1 := Lib.hid (hgr1.andThen (World.grownBy_alloc w1 (.cells #[.slice ad m c] 50) none) (fun j hj => by cases hj))
          have HR1 := Lib.hid (hrg1.alloc (.cells #[.slice ad m c] 50))
          have HE := Lib.hid (show rs.map V ++ [.slice ad m c] = (rs ++ [[a0, a1, a2, a3, a4]]).map V by rw [List.map_append, List.map_singleton, hV])
          have hcB : ∀ j, cv.ownBlock = some j → w.heap.size ≤ j := fun j hj => (World.ownsRow.lt ho1 j hj).1
          have hws1 : w.heap.size ≤ w1.heap.size := by omega
          clear hat hhas hV hPB hrg ia ib hcn ho1 ja jb hgr1 hrg1 hg1 HPB HO HGR hs1
          go_wp2_with (at_builtin; refine wpList_append_own _ rfl _ _ 24 rfl w.heap.size 50 j0 (.slice none 0 0) 1 24 Tryz.underlying24 HJ.out.1 HJ.out.2.1 HJ.out.2.2.1 HJ.out.2.2.2 rfl (by decide) _ _ _ rfl (World.ownsRow.alloc HO1.out _) ⟨w1.heap.size, 0, none⟩ 1 1 [.slice ad m c] rfl rfl (cell_one_new _ _ _) (by intro u hu; simp at hu; subst hu; rfl) (by unfold maxLen; omega) (by omega) (by simp; omega) ?_; intro v' w6 hown6 hgr6 _)
          go_roundw
          case rel => exact ⟨_, cnt1, rs ++ [[a0, a1, a2, a3, a4]], HR1.out.kept hgr6 HJA.out HJB.out, HPB2, Lib.hid (by rw [List.length_append, List.length_singleton, ← HE.out]; exact hown6), Lib.hid (HG1.out.andThen hgr6 (fun j hj => .inl (hcB j hj))), by simp; omega⟩
          case measure => rw [(HR1.out.kept hgr6 HJA.out HJB.out).left_eq, HRG.out.left_eq]; omega
    · intro a0 a1 a2 a3 a4 ad m c w1 cnt1 hR hleft hat hrg1 hlt hg1 hs1 hen
      obtain ⟨hv, ho⟩ := HP.out.come H1.out hgr hR (H3.out _ hR).2 HLE.out hleft hat
      have hm : m = (g [a0, a1, a2, a3, a4]).length := by
        obtain ⟨a', c', e⟩ := own_sliceP ho
        cases e; rfl
      have hgr1 : w.grownBy (w1.alloc (.cells #[.int .i64 a0, .int .i64 a1, .int .i64 a2, .int .i64 a3, .int .i64 a4] 59)) (some b) := (hgr.andThen hg1 (fun j hj => by cases hj; exact .inl (Nat.le_refl _))).andThen (World.grownBy_alloc w1 _ none) (fun j hj => by cases hj)
      have hrg2 := hrg1.alloc (.cells #[.int .i64 a0, .int .i64 a1, .int .i64 a2, .int .i64 a3, .int .i64 a4] 59)
      have hll := HL.out [a0, a1, a2, a3, a4]
      by_cases hs : (g [a0, a1, a2, a3, a4]).length < 2
      · have HD := Lib.hid (HP.out.drop hR hs)
        have HK := Lib.hid (keyOf_klR hR)
        have hm2 : (m : Int) < 2 := by omega
        have HRG := Lib.hid hrg
        clear hat ho hv hrg1 hm hs hll hrg
        go_wp2_with (first | (at_delete; refine wpList_delete_ranges _ rfl _ _ 54 59 rfl 50 keyR Tryz.underlying54 tokS b w.heap.size n D' _ cnt1 rfl hrg2 _ _ rfl HK.out ?_; intro w2 cnt2 hrg3 hle hturn))
        go_roundw
        case rel => exact ⟨_, _, _, _, _, _, _, _, _, _, _, _, ⟨_, cnt2, _, by rw [Maps.strike_twice] at hrg3; exact hrg3, Lib.hid HD.out, hgr1.andThen hturn.grown (fun j hj => by cases hj; exact .inr rfl), Lib.hid (fun y hy hly => HLE.out y hy (by simp at hly; exact hly.1))⟩, rfl⟩
        case measure => rw [hrg3.left_eq, HRG.out.left_eq]; omega
      · have HD := Lib.hid (HP.out.keep hR (by omega))
        have hm2 : ¬ (m : Int) < 2 := by omega
        have HRG := Lib.hid hrg
        clear hat ho hv hrg1 hm hs hll hrg
        go_wp2_with fail
        go_roundw
        case rel => exact ⟨_, cnt1, _, hrg2, Lib.hid HD.out, hgr1, Lib.hid (fun y hy hly => HLE.out y hy (by simp at hly; exact hly.1))⟩
        case measure => rw [hrg2.left_eq, HRG.out.left_eq]; omega
end Go.Proofs.YtfndnaldgaaieaaGreatDoor
