/- Texts of this claim, merged: TpA, TrS, TpS, ClnA, TpG. Conditions: as stated. -/
import Derived.Test.YtbbbdabmbiggkaaTq15
import Derived.Test.YtbbbdabmbiggkaaTq13
import Derived.Test.YtbbbdabmbiggkaaTq12
import Derived.Shelf.SlSortCmp.Insertion
import Derived.Test.YtbbbdabmbiggkaaInsL
import Derived.Lib.OwnBridge
import Derived.Test.YtbbbdabmbiggkaaTq11
import Derived.Test.YtbbbdabmbiggkaaTq2
import Derived.Laws.AppendOwnNone
import Derived.Lib.SliceRun
import Derived.Deep.AppendLies
import Derived.ScopeJumps
import Derived.WalkMore
import Derived.ArgAppend
import Derived.Deep.CutBlock
import Derived.Deep.DeepCutAuto
import Derived.Deep.RegionLaw
import Derived.Deep.RegionLawGrows
namespace Go.Proofs.Ytbbbdabmbiggkaa
open Go.RowKit

theorem hitsP_any (a b : Int) (w : World) :
    Calls Try.prog 56 #[.int .i64 a, .int .i64 b] w fun e w' => e = .returned (.bool (bits .and .i64 a b != 0)) ∧ w = w' := by
  go_enter Try.func56, Try.ntmps56
  go_wp2_with fail
  go_ret
  exact ⟨rfl, rfl⟩
theorem hits_swap (x y : Int) : (bits .and .i64 x y != 0) = hitI y x := by
  unfold hitI
  rw [and_swap]
  rfl
theorem or_shl9 : ∀ (y : Fin 32) (j : Fin 5), bits .or .i64 ((y.val : Nat) : Int) (wrap64 (2 ^ j.val)) = bits .or .i64 ((y.val : Nat) : Int) (2 ^ j.val) := by decide +kernel
theorem mems_lt9 : ∀ L : Fin 32, ∀ y ∈ mems ((L.val : Nat) : Int), 0 ≤ y ∧ y < 5 := by decide +kernel
theorem mems_at9 {E k : Nat} (hE : E < 32) (h : k < (mems (E : Int)).length) : ∃ j : Nat, (mems (E : Int))[k] = (j : Int) ∧ j < 5 := by
  obtain ⟨h1, h2⟩ := mems_lt9 ⟨E, hE⟩ _ (List.getElem_mem h)
  exact ⟨(mems (E : Int))[k].toNat, by omega, by omega⟩
theorem add_block9 (p : Addr) (k : Nat) : (p.add k).block = p.block := by unfold Addr.add; split <;> rfl
theorem cell_grown9 {w w' : World} {g : Nat} {p : Addr} {v : Value} (h : w.grownBy w' (some g)) (hc : w.cell? p = some v) (hne : p.block ≠ g) : w'.cell? p = some v :=
  (World.cell?_of_block (h.block p.block (World.block_lt_of_cell? _ _ hc) (fun e => hne (Option.some.inj e)))).trans hc
theorem grown_trans9 {w w' w'' : World} {g : Nat} (h : w.grownBy w' (some g)) (h' : w'.grownBy w'' (some g)) : w.grownBy w'' (some g) :=
  ⟨h'.os.trans h.os, h'.tape.trans h.tape, h'.output.trans h.output, Nat.le_trans h.size h'.size, fun k hk hne => (h'.block k (Nat.lt_of_lt_of_le hk h.size) hne).trans (h.block k hk hne)⟩
theorem grown_alloc9 (w : World) (o : Obj) (g : Nat) : w.grownBy (w.alloc o) (some g) := ⟨rfl, rfl, rfl, by rw [World.size_alloc]; omega, fun k hk _ => Below.heap_alloc w o k hk⟩
set_option maxHeartbeats 1600000 in
theorem withEach_any (Y E : Nat) (hY : Y < 32) (hE : E < 32) (w : World) :
    Calls Try.prog 57 #[.int .i64 (Y : Int), .int .i64 (E : Int)] w (RetI (grwOne (E : Int) (Y : Int) 5) w) := by
  obtain ⟨i0, hi, hz0, hz1, hz2⟩ := info_parts info3i
  have HI : Hid (_ ∧ _ ∧ _ ∧ _) := Lib.hid ⟨hi, hz0, hz1, hz2⟩
  clear hi hz0 hz1 hz2
  have HM := Lib.hid (members_any E hE)
  have HG := Lib.hid (grwOne_mems hE (Y : Int))
  have HLN := Lib.hid (mems_len (E : Int))
  obtain ⟨M, hM⟩ : ∃ M, M = mems (E : Int) := ⟨_, rfl⟩
  have HO9 := Lib.hid (fun j => or_shl9 ⟨Y, hY⟩ j)
  have HAT : Hid (∀ k (h : k < M.length), ∃ j : Nat, M[k] = (j : Int) ∧ j < 5) := Lib.hid (by intro k h; subst hM; exact mems_at9 hE h)
  rw [← hM] at HM HG HLN
  clear hM
  go_enter Try.func57, Try.ntmps57
  go_wp2_with (at_make; refine wpList_make_own _ rfl _ _ 22 rfl w.heap.size 3 i0 (.int .i64 0) 1 Try.underlying22 HI.out.1 HI.out.2.1 HI.out.2.2.1 .i64 .i64 _ 5 rfl rfl (by omega) (by rw [HI.out.2.2.2]; omega) (by unfold maxLen; omega) (Nat.le_refl _) ?_; intro w0 hown0 hgrow0)
  have hb0 := (Below.refl w.heap.size w).grown hgrow0 (Nat.le_refl _) (by simp)
  have hown := OwnI.made hown0
  clear hown0 hgrow0
  refine (HM.out _).mono ?_
  rintro e w1 ⟨v1, rfl, ho1, hb1⟩
  obtain ⟨va, vc, hv1, hcells⟩ := ho1.read
  subst hv1
  have hown1 := hown.kept hb1 (fun k hk => (OwnI.lt hown k hk).2)
  have hbb := hb0.trans (hb1.mono hb0.size)
  have HC := Lib.hid hcells
  have HNE : Hid (∀ x, va = some x → x.block ≠ w.heap.size) := Lib.hid (fun x hx => by
    subst hx
    have h1 := (OwnI.lt ho1 x.block rfl).1
    have h2 := (OwnI.lt hown w.heap.size rfl).2
    omega)
  clear hcells ho1 hown hb0 hb1
  go_wp2_with fail
  go_loopw [5, 12] (fun ov iv wr => ∃ (k : Nat) (q : List Int), k ≤ M.length ∧ ov = .slice (some ⟨w.heap.size, 0, none⟩) k 5 ∧ iv = .int .i64 (k : Int) ∧ Hid (q = (M.take k).map fun j => bits .or .i64 (Y : Int) (2 ^ j.toNat)) ∧ Hid (OwnI wr w.heap.size ov q) ∧ Hid (Below w.heap.size w wr) ∧ Hid (w1.grownBy wr (some w.heap.size))) (fun _ iv _ => M.length - (intOf iv).toNat)
  case atStart => exact ⟨0, [], by omega, rfl, rfl, Lib.hid rfl, Lib.hid hown1, Lib.hid hbb, Lib.hid ⟨rfl, rfl, rfl, Nat.le_refl _, fun _ _ _ => rfl⟩⟩
  case round =>
    clear hown1 hbb
    obtain ⟨k, q, hk, rfl, rfl, hq, HO, HB, HGR⟩ := hrel
    obtain ⟨w3, hw3⟩ : ∃ w', w' = wr := ⟨_, rfl⟩
    rw [← hw3] at HO HB HGR ⊢
    clear hw3
    have z0 : (0 : Int) ≤ (k : Int) := by omega
    by_cases hlt : k < M.length
    · obtain ⟨j, hj, hj5⟩ := HAT.out k hlt
      obtain ⟨b, rfl, hb⟩ := HC.out k hlt
      rw [hj] at hb
      have z1 : (k : Int) < (M.length : Int) := by omega
      have z2 : (0 : Int) ≤ (j : Int) := by omega
      have HS : Hid ((M.take (k + 1)).map (fun j => bits .or .i64 (Y : Int) (2 ^ j.toNat)) = q ++ [bits .or .i64 (Y : Int) (2 ^ j)]) := Lib.hid (by rw [List.take_succ_eq_append_getElem hlt, List.map_append, ← hq.out, hj]; rfl)
      have HO2 := Lib.hid (HO9.out ⟨j, hj5⟩)
      have hql : q.length = k := by rw [hq.out, List.length_map, List.length_take]; omega
      have HQL := Lib.hid hql
      have HK5 : Hid (k + 1 ≤ 5) := Lib.hid (by have := HLN.out; omega)
      have hb3 := cell_grown9 HGR.out hb (by rw [add_block9]; exact HNE.out b rfl)
      have HLT := Lib.hid (OwnI.lt HO.out w.heap.size rfl)
      clear hj hb hq hql
      have hm5 := HLN.out
      go_wp2_with (at_builtin; refine wpList_append_fits _ rfl _ _ 22 rfl w.heap.size 3 i0 1 Try.underlying22 HI.out.1 HI.out.2.2.1 w.heap.size k 5 (intsV q) rfl (by have h := World.ownsRow.alloc HO.out (.cells #[.int .i64 (bits .or .i64 (Y : Int) (wrap64 (2 ^ j)))] 3); rw [HQL.out] at h; exact h) ⟨w3.heap.size, 0, none⟩ 1 1 [.int .i64 (bits .or .i64 (Y : Int) (wrap64 (2 ^ j)))] rfl rfl (cell_one_new _ _ _) (one_i64 _) HK5.out ?_; intro w4 hown' hgrow; have HO4 : Hid (OwnI w4 w.heap.size (.slice (some ⟨w.heap.size, 0, none⟩) (k + 1) 5) (q ++ [bits .or .i64 (Y : Int) (2 ^ j)])) := Lib.hid (by rw [HO2.out] at hown'; refine OwnI.snoc ?_; rw [HQL.out]; exact hown'); have HB4 : Hid (Below w.heap.size w w4) := Lib.hid ((HB.out.alloc HB.out.size _).grown hgrow (by rw [World.size_alloc]; have := HB.out.size; omega) (fun k hk => by cases hk; exact Nat.le_refl _)); have HG4 : Hid (w1.grownBy w4 (some w.heap.size)) := Lib.hid (grown_trans9 HGR.out (grown_trans9 (grown_alloc9 w3 _ _) hgrow)); clear hown' hgrow)
      go_roundw
      case rel => exact ⟨k + 1, _, by omega, rfl, by go_num, Lib.hid HS.out.symm, HO4, HB4, HG4⟩
      case measure => simp [intOf]; omega
    · obtain rfl : k = M.length := by omega
      have HE : Hid (grwOne (E : Int) (Y : Int) 5 = q) := Lib.hid (by rw [HG.out, hq.out, List.take_length])
      clear hq
      go_wp2_with fail
      go_ret
      exact ⟨_, rfl, by rw [HE.out]; exact HO.out, HB.out⟩
end Go.Proofs.Ytbbbdabmbiggkaa
namespace Go.Proofs.Ytbbbdabmbiggkaa
open Go.RowKit
open Go.Sort (insInner insOuter swp SWO PermIn SortedIn)

instance : Inhabited (Fin 32) := ⟨⟨0, by omega⟩⟩
def enc9 (x : Fin 32) : Value := .int .i64 ((x.val : Nat) : Int)
def cf9 (x y : Fin 32) : Int := (cnt ((x.val : Nat) : Int) : Int) - (cnt ((y.val : Nat) : Int) : Int)
def key9 (x : Fin 32) : Nat := cnt ((x.val : Nat) : Int) * 32 + x.val
def lk9 (x y : Fin 32) : Bool := decide (key9 x < key9 y)
theorem lt_lk (x y : Fin 32) (h : y.val < x.val) : ltOf cf9 x y = lk9 x y := by
  unfold ltOf cf9 lk9 key9
  have := x.isLt
  have := y.isLt
  rw [Bool.eq_iff_iff, decide_eq_true_iff, decide_eq_true_iff]
  omega
theorem swo9 : SWO lk9 where
  irrefl x := by unfold lk9; rw [decide_eq_false_iff_not]; omega
  trans x y z h1 h2 := by unfold lk9 at *; rw [decide_eq_true_iff] at *; omega
  ntrans x y z h1 h2 := by unfold lk9 at *; rw [decide_eq_false_iff_not] at *; omega
theorem insInner_same9 : ∀ (j : Nat) (d : Array (Fin 32)), j < d.size → (∀ p, p < j → (d[p]!).val < (d[j]!).val) → insInner (ltOf cf9) 0 j d = insInner lk9 0 j d
  | 0, d, _, _ => by unfold insInner; rfl
  | j + 1, d, hj, h => by
    unfold insInner
    rw [lt_lk _ _ (h j (by omega))]
    split
    · refine insInner_same9 j (swp d (j + 1) j) (by rw [Go.Sort.size_swp]; omega) fun p hp => ?_
      rw [Go.Sort.swp_other d (j + 1) j p (by omega) (by omega), Go.Sort.swp_right d (j + 1) j (by omega)]
      exact h p (by omega)
    · rfl
theorem insInner_at9 : ∀ (j : Nat) (d : Array (Fin 32)), j < d.size → (insInner lk9 0 j d).size = d.size ∧ (∀ q, j < q → (insInner lk9 0 j d)[q]! = d[q]!) ∧ ∀ p, p ≤ j → ∃ p', p' ≤ j ∧ (insInner lk9 0 j d)[p]! = d[p']!
  | 0, d, _ => by unfold insInner; exact ⟨rfl, fun _ _ => rfl, fun p hp => ⟨p, hp, rfl⟩⟩
  | j + 1, d, hj => by
    unfold insInner
    split
    · obtain ⟨h1, h2, h3⟩ := insInner_at9 j (swp d (j + 1) j) (by rw [Go.Sort.size_swp]; omega)
      refine ⟨h1.trans (Go.Sort.size_swp _ _ _), fun q hq => ?_, fun p hp => ?_⟩
      · rw [h2 q (by omega), Go.Sort.swp_other d (j + 1) j q (by omega) (by omega)]
      · by_cases e : p = j + 1
        · subst e
          refine ⟨j, by omega, ?_⟩
          rw [h2 (j + 1) (by omega), Go.Sort.swp_left d (j + 1) j hj (by omega)]
        · obtain ⟨p', hp', e'⟩ := h3 p (by omega)
          rw [e']
          by_cases e2 : p' = j
          · subst e2
            exact ⟨p' + 1, Nat.le_refl _, Go.Sort.swp_right d (p' + 1) p' (by omega)⟩
          · exact ⟨p', by omega, Go.Sort.swp_other d (j + 1) j p' (by omega) (by omega)⟩
    · exact ⟨rfl, fun _ _ => rfl, fun p hp => ⟨p, hp, rfl⟩⟩
theorem insOuter_same9 (b : Nat) : ∀ (n i : Nat) (d : Array (Fin 32)), b - i = n → b ≤ d.size → (∀ p q, p < q → i ≤ q → q < b → (d[p]!).val < (d[q]!).val) → insOuter (ltOf cf9) 0 b i d = insOuter lk9 0 b i d
  | 0, i, d, hn, _, _ => by rw [Go.Proofs.insOuter_stop _ _ _ _ _ (by omega), Go.Proofs.insOuter_stop _ _ _ _ _ (by omega)]
  | n + 1, i, d, hn, hb, h => by
    rw [Go.Proofs.insOuter_go _ _ _ _ _ (show i < b by omega), Go.Proofs.insOuter_go _ _ _ _ _ (show i < b by omega)]
    rw [insInner_same9 i d (by omega) fun p hp => h p i hp (Nat.le_refl _) (by omega)]
    obtain ⟨h1, h2, h3⟩ := insInner_at9 i d (by omega)
    refine insOuter_same9 b n (i + 1) _ (by omega) (by rw [h1]; exact hb) fun p q hpq hiq hq => ?_
    rw [h2 q (by omega)]
    by_cases hp : p ≤ i
    · obtain ⟨p', hp', e⟩ := h3 p hp
      rw [e]
      exact h p' q (by omega) (by omega) hq
    · rw [h2 p (by omega)]
      exact h p q hpq (by omega) hq
theorem getB {l : List (Fin 32)} {j : Nat} (h : j < l.length) : l.toArray[j]! = l[j] := by
  rw [getElem!_pos l.toArray j (by simpa using h)]
  simp
/-- The sort of an ascending list: the same members, in ascending order of the key. -/
theorem sort_key9 (L : List (Fin 32)) (h : L.Pairwise fun x y => x.val < y.val) : ∃ L' : List (Fin 32), Go.Sort.insertionSort (ltOf cf9) L.toArray 0 L.length = L'.toArray ∧ L'.Perm L ∧ L'.Pairwise fun x y => key9 x < key9 y := by
  have e : Go.Sort.insertionSort (ltOf cf9) L.toArray 0 L.length = Go.Sort.insertionSort lk9 L.toArray 0 L.length := by
    unfold Go.Sort.insertionSort
    refine insOuter_same9 L.length _ _ _ rfl (by simp) fun p q hpq _ hq => ?_
    rw [getB (by omega), getB hq]
    exact (List.pairwise_iff_getElem.1 h) p q (by omega) hq hpq
  rw [e]
  obtain ⟨⟨h1, -, h2⟩, h3⟩ := Go.Sort.insertionSort_holds swo9 L.toArray 0 L.length (Nat.zero_le _) (by simp)
  obtain ⟨d, hd⟩ : ∃ d, d = Go.Sort.insertionSort lk9 L.toArray 0 L.length := ⟨_, rfl⟩
  rw [← hd] at h1 h2 h3 ⊢
  have hs : d.size = L.length := by rw [h1]; simp
  rw [Array.extract_eq_self_of_le (by omega), Array.extract_eq_self_of_le (by simp)] at h2
  have hp : d.toList.Perm L := h2
  refine ⟨d.toList, rfl, hp, ?_⟩
  have hnd : d.toList.Nodup := hp.nodup_iff.2 (h.imp fun h1 h2 => by rw [h2] at h1; omega)
  rw [List.pairwise_iff_getElem]
  intro i j hi hj hij
  have h4 := h3 i j (Nat.zero_le _) hij (by rw [← hs]; simpa using hj)
  rw [getElem!_pos d j (by simpa using hj), getElem!_pos d i (by simpa using hi)] at h4
  unfold lk9 at h4
  rw [decide_eq_false_iff_not] at h4
  have hne : d.toList[i] ≠ d.toList[j] := fun e => by
    have := (List.pairwise_iff_getElem.1 hnd) i j hi hj hij
    exact this e
  simp only [Array.getElem_toList] at hne ⊢
  have hk : key9 d[i] ≠ key9 d[j] := fun e => hne (by
    unfold key9 at e
    have a1 := (d[i]).isLt
    have a2 := (d[j]).isLt
    apply Fin.ext
    omega)
  omega
def keyJ9 (x : Int) : Int := (cnt x : Int) * 32 + x
theorem parts_key : ∀ C : Fin 6, List.Pairwise (· < ·) ((parts ((C.val : Nat) : Int)).map keyJ9) := by decide +kernel
theorem key_back {a b : List Int} (ha : ∀ x ∈ a, 0 ≤ x ∧ x < 32) (hb : ∀ x ∈ b, 0 ≤ x ∧ x < 32) (h : a.map keyJ9 = b.map keyJ9) : a = b := by
  have e : ∀ l : List Int, (∀ x ∈ l, 0 ≤ x ∧ x < 32) → (l.map keyJ9).map (· % 32) = l := fun l hl => by
    rw [List.map_map]
    refine (List.map_congr_left fun x hx => ?_).trans (List.map_id l)
    show keyJ9 x % 32 = x
    unfold keyJ9
    have := hl x hx
    omega
  rw [← e a ha, ← e b hb, h]
/-- Those of the parts that a list has, in the order of PartsBySize. -/
def partsIn (C : Nat) (M : List Int) : List Int := (parts (C : Int)).filter fun S => decide (S ∈ M)
theorem sort_parts {C : Nat} (hC : C ≤ 5) {M : List Int} (hM : ∀ y ∈ M, ∃ X : Nat, y = (X : Int) ∧ X < 2 ^ C) {L' L : List (Fin 32)} (hL : L.map (fun x => ((x.val : Nat) : Int)) = M) (hp : L'.Perm L) (hk : L'.Pairwise fun x y => key9 x < key9 y) :
    L'.map (fun x => ((x.val : Nat) : Int)) = partsIn C M := by
  have h32 := two5 hC
  have hm : ∀ z, z ∈ L'.map (fun x => ((x.val : Nat) : Int)) ↔ z ∈ M := fun z => by rw [← hL]; exact (hp.map _).mem_iff
  have hf : ∀ z, z ∈ partsIn C M ↔ z ∈ M := fun z => by
    unfold partsIn
    rw [List.mem_filter, decide_eq_true_iff]
    refine ⟨fun h => h.2, fun h => ⟨?_, h⟩⟩
    obtain ⟨X, rfl, hX⟩ := hM z h
    exact (parts_mem hC _).2 ⟨X, hX, rfl⟩
  have hb : ∀ l : List Int, (∀ z, z ∈ l → z ∈ M) → ∀ x ∈ l, 0 ≤ x ∧ x < 32 := fun l h x hx => by
    obtain ⟨X, rfl, hX⟩ := hM x (h x hx)
    omega
  refine key_back (hb _ fun z h => (hm z).1 h) (hb _ fun z h => (hf z).1 h) (ascI_unique _ _ ?_ ?_ fun z => ?_)
  · unfold AscI
    rw [List.map_map, List.pairwise_map]
    refine hk.imp fun {x y} h => ?_
    show (cnt ((x.val : Nat) : Int) : Int) * 32 + ((x.val : Nat) : Int) < (cnt ((y.val : Nat) : Int) : Int) * 32 + ((y.val : Nat) : Int)
    unfold key9 at h
    omega
  · unfold AscI
    have h := parts_key ⟨C, by omega⟩
    rw [List.pairwise_map] at h ⊢
    exact h.filter _
  · rw [List.mem_map, List.mem_map]
    exact ⟨fun ⟨y, h1, h2⟩ => ⟨y, (hf y).2 ((hm y).1 h1), h2⟩, fun ⟨y, h1, h2⟩ => ⟨y, (hm y).2 ((hf y).1 h1), h2⟩⟩
/-- Ten chains hold all sets of five columns. -/
def chn : Fin 32 → Nat := fun x => [0, 0, 1, 0, 2, 2, 1, 0, 3, 3, 4, 3, 5, 2, 1, 0, 6, 6, 7, 6, 8, 8, 7, 6, 9, 9, 4, 3, 5, 2, 1, 0].getD x.val 0
theorem chn_fin : ∀ x y : Fin 32, chn x = chn y → subN x.val y.val = true ∨ subN y.val x.val = true := by decide +kernel
theorem chn_lt : ∀ x : Fin 32, chn x < 10 := by decide +kernel
theorem nodup_len : ∀ (n : Nat) (l : List Nat), l.Nodup → (∀ x ∈ l, x < n) → l.length ≤ n
  | 0, l, _, h => by
    cases l with
    | nil => exact Nat.le_refl _
    | cons x l => exact absurd (h x (List.mem_cons_self ..)) (by omega)
  | n + 1, l, hd, h => by
    have h1 := nodup_len n (l.erase n) (hd.erase n) fun x hx => by
      have := (hd.mem_erase_iff).1 hx
      have := h x this.2
      omega
    by_cases hm : n ∈ l
    · have := List.length_erase_of_mem hm
      omega
    · rw [List.erase_of_not_mem hm] at h1
      omega
theorem trL_ten (E : List Int) (n : Int) : (trL E n).length ≤ 10 := by
  by_cases hok : (decide ((0 ≤ n ∧ n ≤ 5) ∧ E.length ≤ 100) && E.all (isA n)) = true
  · have hmem : ∀ z, z ∈ trL E n ↔ ∃ x : Nat, x < 32 ∧ hitTo E x E.length = true ∧ z = (x : Int) ∧ ∀ y, y < 32 → hitTo E y E.length = true → subN y x = true → y = x := fun z => by rw [trL_eq hok]; exact minS_brd _ (Nat.le_refl _) z
    have hasc : AscI (trL E n) := by rw [trL_eq hok]; exact minS_asc _
    obtain ⟨L, hL⟩ : ∃ L : List (Fin 32), L.map (fun x => ((x.val : Nat) : Int)) = trL E n := by
      refine ⟨(trL E n).attach.map fun z => ⟨z.1.toNat, ?_⟩, ?_⟩
      · obtain ⟨x, h1, -, h2, -⟩ := (hmem z.1).1 z.2
        omega
      · rw [List.map_map]
        refine (List.map_congr_left fun z _ => ?_).trans (List.attach_map_subtype_val (trL E n))
        obtain ⟨x, h1, -, h2, -⟩ := (hmem z.1).1 z.2
        show ((z.1.toNat : Nat) : Int) = z.1
        omega
    rw [← hL, List.length_map]
    have h1 : (L.map chn).length ≤ 10 := nodup_len 10 _ (by
      unfold List.Nodup
      rw [List.pairwise_map]
      rw [← hL] at hasc
      unfold AscI at hasc
      rw [List.pairwise_map] at hasc
      refine hasc.imp_of_mem fun {x y} hx hy hlt he => ?_
      obtain ⟨X, hX, fX, eX, mX⟩ := (hmem ((x.val : Nat) : Int)).1 (by rw [← hL]; exact List.mem_map.2 ⟨x, hx, rfl⟩)
      obtain ⟨Y, hY, fY, eY, mY⟩ := (hmem ((y.val : Nat) : Int)).1 (by rw [← hL]; exact List.mem_map.2 ⟨y, hy, rfl⟩)
      obtain rfl : x.val = X := by omega
      obtain rfl : y.val = Y := by omega
      rcases chn_fin x y he with h | h
      · have := mY _ hX fX h
        omega
      · have := mX _ hY fY h
        omega) fun z hz => by
      obtain ⟨x, -, rfl⟩ := List.mem_map.1 hz
      exact chn_lt x
    rwa [List.length_map] at h1
  · unfold trL
    rw [if_neg hok]
    exact Nat.zero_le _
end Go.Proofs.Ytbbbdabmbiggkaa
namespace Go.Proofs.Ytbbbdabmbiggkaa
open Go.RowKit

theorem count9_any (X : Nat) (hX : X < 32) (w : World) :
    Calls Try.prog 69 #[.int .i64 (X : Int)] w fun e w' => e = .returned (.int .i64 (cnt (X : Int) : Int)) ∧ w = w' := by
  have HV := Lib.hid (isValid_any (X : Int) (by omega) (by omega))
  have hv : valB (X : Int) = true := val_nat hX
  have HS := Lib.hid (size_any X hX)
  go_enter Try.func69, Try.ntmps69
  go_wp2_with fail
  refine (HV.out _).mono ?_
  rintro e w' ⟨rfl, rfl⟩
  go_wp2_with fail
  refine (HS.out _).mono ?_
  rintro e w' ⟨rfl, rfl⟩
  go_wp2_with fail
  go_ret
  exact ⟨rfl, rfl⟩
theorem bySize_any (x y : Fin 32) (w : World) :
    Calls Try.prog 37 #[enc9 x, enc9 y] w fun e w' => e = .returned (.int .i64 (cf9 x y)) ∧ w = w' := by
  have HX := Lib.hid (count9_any x.val x.isLt)
  have HY := Lib.hid (count9_any y.val y.isLt)
  have HC : Hid (cf9 x y = (cnt ((x.val : Nat) : Int) : Int) - (cnt ((y.val : Nat) : Int) : Int)) := Lib.hid rfl
  have cx := cnt_le ((x.val : Nat) : Int)
  have cy := cnt_le ((y.val : Nat) : Int)
  unfold enc9
  obtain ⟨a, ha⟩ : ∃ a, a = cnt ((x.val : Nat) : Int) := ⟨_, rfl⟩
  obtain ⟨b, hb⟩ : ∃ b, b = cnt ((y.val : Nat) : Int) := ⟨_, rfl⟩
  rw [← ha] at cx HX HC
  rw [← hb] at cy HY HC
  clear ha hb
  go_enter Try.func37, Try.ntmps37
  go_wp2_with fail
  refine (HX.out _).mono ?_
  rintro e w' ⟨rfl, rfl⟩
  go_wp2_with fail
  refine (HY.out _).mono ?_
  rintro e w' ⟨rfl, rfl⟩
  go_wp2_with fail
  go_ret
  exact ⟨ret_int (by rw [HC.out]), rfl⟩
theorem insSort_some (B g cap : Nat) (L : List (Fin 32)) (w : World) (ho : OwnI w B (.slice (some ⟨g, 0, none⟩) L.length cap) (L.map fun x => ((x.val : Nat) : Int))) (hasc : L.Pairwise fun x y => x.val < y.val) (hl : L.length ≤ 32) :
    Calls Try.prog 82 #[.slice (some ⟨g, 0, none⟩) L.length cap, .int .i64 0, .int .i64 (L.length : Int), .func (.func 37) #[] #[]] w fun e w' =>
      e = .returned (.tuple #[]) ∧ ∃ L' : List (Fin 32), L'.Perm L ∧ (L'.Pairwise fun x y => key9 x < key9 y) ∧ OwnI w' B (.slice (some ⟨g, 0, none⟩) L.length cap) (L'.map fun x => ((x.val : Nat) : Int)) ∧ Below B w w' := by
  have eg : ∀ args w, (callFunc 37 args).run Try.prog w = .ok (.enter 37 args) w := enters_of Try.func37 (by kernel_rfl) rfl
  have he : intsV (L.map fun x => ((x.val : Nat) : Int)) = L.map enc9 := by unfold intsV; rw [List.map_map]; rfl
  have ho' : w.ownsRow B 3 1 (.slice (some ⟨g, 0, none⟩) L.length cap) L.length (L.map enc9) := by
    have h := ho
    unfold OwnI at h
    rw [he, List.length_map] at h
    exact h
  obtain ⟨g', cap', hv, hB, -, -, -, -, hH⟩ := Lib.holds_of_ownsRow ho' (by intro h; cases h)
  injection hv with e1 _ _
  injection e1 with e1
  injection e1 with e1
  subst e1
  have hs : L.toArray.size = L.length := by simp
  have hcmp : CmpReads Try.prog 37 #[] enc9 cf9 g 0 L.toArray.size w := fun m os dk _ x y =>
    (bySize_any x y _).mono fun _ _ ⟨a, b⟩ => ⟨a, 0, b.symm⟩
  have h := Any.insertionSortCmpFunc_one insL enc9 (fun x => rfl) cf9 37 #[] g 0 cap 0 L.length L.toArray w eg hcmp hH (Nat.zero_le _) (by omega) (by omega)
  rw [hs] at h
  obtain ⟨L', hL, hp, hk⟩ := sort_key9 L hasc
  rw [hL] at h
  change Calls Try.prog 82 _ _ _ at h
  refine h.mono ?_
  rintro e w' ⟨rfl, n, rfl⟩
  have ew : (Sort.putRow enc9 w g 0 L'.toArray).drewN n = Sort.putRow enc9 (Sort.ahead w n) g 0 L'.toArray := (Sort.putRow_ahead enc9 w n g 0 L'.toArray).symm
  rw [ew]
  refine ⟨rfl, L', hp, hk, ?_, Lib.below_putRow (Below.refl B w) hB⟩
  have h2 := Lib.ownsRow_putRow (q := n) ho' (ys := L') hp.length_eq (Nat.le_refl _)
  rw [← hp.length_eq, List.take_length] at h2
  unfold OwnI
  have he' : intsV (L'.map fun x => ((x.val : Nat) : Int)) = L'.map enc9 := by unfold intsV; rw [List.map_map]; rfl
  rw [he', List.length_map, ← hp.length_eq]
  exact h2
set_option maxHeartbeats 800000 in
theorem insSort_none (w : World) :
    Calls Try.prog 82 #[.slice none 0 0, .int .i64 0, .int .i64 0, .func (.func 37) #[] #[]] w fun e w' => e = .returned (.tuple #[]) ∧ w = w' := by
  go_enter Try.func82, Try.ntmps82
  go_wp2_with fail
  go_loop [8] (fun iv => iv = .int .i64 1) (fun _ => 0)
  case atStart => rfl
  case round =>
    subst hrel
    go_wp2_with fail
    go_end0
    exact ⟨rfl, rfl⟩
/-- The list in which the sort leaves a row. -/
theorem insSort_any (C : Nat) (hC : C ≤ 5) (v : Value) (M : List Int) (B : Nat) (w : World) (ho : OwnI w B v M) (hasc : AscI M) (hM : ∀ y ∈ M, ∃ X : Nat, y = (X : Int) ∧ X < 2 ^ C) (hl : M.length ≤ 10) :
    Calls Try.prog 82 #[v, .int .i64 0, .int .i64 (M.length : Int), .func (.func 37) #[] #[]] w fun e w' => e = .returned (.tuple #[]) ∧ OwnI w' B v (partsIn C M) ∧ Below B w w' := by
  have h32 := two5 hC
  rcases ho.shape with ⟨rfl, rfl⟩ | ⟨g, cap, rfl, -, hB, -⟩
  · refine (insSort_none w).mono ?_
    rintro e w' ⟨rfl, rfl⟩
    refine ⟨rfl, ?_, Below.refl _ _⟩
    have : partsIn C [] = [] := by
      unfold partsIn
      rw [List.filter_eq_nil_iff]
      intro x _
      simp
    rw [this]
    exact World.ownsRow_nil _ _ _ _
  · obtain ⟨L, hL⟩ : ∃ L : List (Fin 32), L.map (fun x => ((x.val : Nat) : Int)) = M := by
      refine ⟨M.attach.map fun z => ⟨z.1.toNat, ?_⟩, ?_⟩
      · obtain ⟨x, h1, h2⟩ := hM z.1 z.2
        omega
      · rw [List.map_map]
        refine (List.map_congr_left fun z _ => ?_).trans (List.attach_map_subtype_val M)
        obtain ⟨x, h1, h2⟩ := hM z.1 z.2
        show ((z.1.toNat : Nat) : Int) = z.1
        omega
    have hlen : L.length = M.length := by rw [← hL, List.length_map]
    have ha : L.Pairwise fun x y => x.val < y.val := by
      rw [← hL] at hasc
      unfold AscI at hasc
      rw [List.pairwise_map] at hasc
      exact hasc.imp fun {x y} h => by omega
    rw [← hlen] at ho ⊢
    refine (insSort_some B g cap L w (by rw [hL]; exact ho) ha (by omega)).mono ?_
    rintro e w' ⟨rfl, L', hp, hk, ho', hb'⟩
    rw [sort_parts hC hM hL hp hk] at ho'
    exact ⟨rfl, ho', hb'⟩
set_option maxRecDepth 100000 in
set_option maxHeartbeats 1600000 in
theorem stable_any (C : Nat) (hC : C ≤ 5) (v : Value) (M : List Int) (B : Nat) (w : World) (ho : OwnI w B v M) (hasc : AscI M) (hM : ∀ y ∈ M, ∃ X : Nat, y = (X : Int) ∧ X < 2 ^ C) (hl : M.length ≤ 10) :
    Calls Try.prog 68 #[v, .int .i64 (M.length : Int), .func (.func 37) #[] #[]] w fun e w' => e = .returned (.tuple #[]) ∧ OwnI w' B v (partsIn C M) ∧ Below B w w' := by
  have HI := Lib.hid (insSort_any C hC v M B w ho hasc hM hl)
  have g1 : ¬ ((20 : Int) ≤ (M.length : Int)) := by omega
  have g2 : ¬ ((20 : Int) < (M.length : Int)) := by omega
  clear ho hasc hM
  go_enter Try.func68, Try.ntmps68
  go_wp2_with fail
  go_loop [7, 8] (fun av iv => av = .int .i64 0 ∧ iv = .int .i64 20) (fun _ _ => 0)
  case atStart => exact ⟨rfl, rfl⟩
  case round =>
    obtain ⟨rfl, rfl⟩ := hrel
    go_wp2_with fail
    refine HI.out.mono ?_
    rintro e w' ⟨rfl, ho', hb'⟩
    have HO := Lib.hid ho'
    have HB := Lib.hid hb'
    clear ho' hb'
    go_wp2_with fail
    go_loop [6] (fun iv => iv = .int .i64 20) (fun _ => 0)
    case atStart => rfl
    case round =>
      subst hrel
      go_wp2_with fail
      go_end0
      exact ⟨rfl, HO.out, HB.out⟩
theorem sortStable_any (C : Nat) (hC : C ≤ 5) (v : Value) (M : List Int) (B : Nat) (w : World) (ho : OwnI w B v M) (hasc : AscI M) (hM : ∀ y ∈ M, ∃ X : Nat, y = (X : Int) ∧ X < 2 ^ C) (hl : M.length ≤ 10) :
    Calls Try.prog 36 #[v, .func (.func 37) #[] #[]] w fun e w' => e = .returned (.tuple #[]) ∧ OwnI w' B v (partsIn C M) ∧ Below B w w' := by
  have HI := Lib.hid (stable_any C hC v M B w ho hasc hM hl)
  obtain ⟨a, cap, rfl, -⟩ := ho.read
  clear ho hasc hM
  go_enter Try.func36, Try.ntmps36
  go_wp2_with fail
  refine HI.out.mono ?_
  rintro e w' ⟨rfl, ho', hb'⟩
  go_wp2_with fail
  go_end0
  exact ⟨rfl, ho', hb'⟩
end Go.Proofs.Ytbbbdabmbiggkaa
namespace Go.Proofs.Ytbbbdabmbiggkaa
open Go.RowKit

section
variable {P : Program} {w : World}
theorem run_append_all (base : Nat) (t ty e : TypeId) (i : TypeInfo) (z : Value) (size bytes : Nat) (ht : P.underlying t = some (.slice e)) (hi : P.info? e = some i) (hz : i.zero = some z)
    (hsize : i.size = size) (hby : i.bytes = bytes) (hzs : z.cells.size = size) (hsz : 0 < size)
    (v : Value) (n : Nat) (xs : List Value) (hown : w.ownsRow base e size v n xs)
    (a : Option Addr) (m c : Nat) (news : List Value) (hl : news.length = m * size) (hnews : ∀ j u, news[j]? = some u → ∃ x, a = some x ∧ w.cell? (x.add j) = some u) (h1 : ∀ u ∈ news, u.oneCell' = true)
    (h63 : n + m ≤ maxLen) (hbytes : (n + m) * bytes ≤ 140737488355328) (hbase : base ≤ w.heap.size) :
    ∃ v' w', (Builtin.append_ #[t, t] ty #[v, .slice a m c]).run P w = .ok v' w' ∧ w'.ownsRow base e size v' (n + m) (xs ++ news) ∧ w.grownBy w' v.ownBlock := by
  cases a with
  | some x =>
    obtain ⟨v', w', h2, h3, h4, -⟩ := run_append_own_at (P := P) w base t ty e i z size bytes ht hi hz hsize hby hzs hsz v n xs hown x m c news hl (fun j u hu => by
      obtain ⟨y, hy, hc⟩ := hnews j u hu
      cases hy
      exact hc) h1 h63 hbytes hbase
    exact ⟨v', w', h2, h3, h4⟩
  | none =>
    have hn : news = [] := by
      cases news with
      | nil => rfl
      | cons u us =>
        obtain ⟨y, hy, -⟩ := hnews 0 u rfl
        cases hy
    subst hn
    have hm : m = 0 := by
      rcases Nat.eq_zero_or_pos m with h | h
      · exact h
      · exfalso
        have := Nat.mul_pos h hsz
        rw [← hl] at this
        exact Nat.lt_irrefl 0 this
    subst hm
    refine ⟨v, w, ?_, by rw [Nat.add_zero, List.append_nil]; exact hown, ⟨rfl, rfl, rfl, Nat.le_refl _, fun _ _ _ => rfl⟩⟩
    rcases hown.2 with ⟨rfl, rfl⟩ | ⟨g, cap, cur, rfl, _, _, hnc, _⟩
    · simp [Builtin.append_, run_underlying ht, sizeOf, typeInfo, hi, Builtin.lenOf, Builtin.firstCells]
    · simp [Builtin.append_, run_underlying ht, sizeOf, typeInfo, hi, Builtin.lenOf, Builtin.firstCells, hnc, storeCells]
theorem wp_append_all {o : Oper} {a : Act} {K : Act → World → Prop} {Q : Exit → Act → World → Prop} (s x : Operand) (t : TypeId)
    (ho : o.op = .call { callee := .builtin .append, args := #[s, x], argTypes := #[t, t] })
    (base : Nat) (e : TypeId) (i : TypeInfo) (z : Value) (size bytes : Nat) (ht : P.underlying t = some (.slice e)) (hi : P.info? e = some i) (hz : i.zero = some z)
    (hsize : i.size = size) (hby : i.bytes = bytes) (hzs : z.cells.size = size) (hsz : 0 < size)
    (v : Value) (n : Nat) (xs : List Value) (hs : a.eval s = v) (hown : w.ownsRow base e size v n xs)
    (ad : Option Addr) (m c : Nat) (news : List Value) (hx : a.eval x = .slice ad m c) (hl : news.length = m * size) (hnews : ∀ j u, news[j]? = some u → ∃ x, ad = some x ∧ w.cell? (x.add j) = some u) (h1 : ∀ u ∈ news, u.oneCell' = true)
    (h63 : n + m ≤ maxLen) (hbytes : (n + m) * bytes ≤ 140737488355328) (hbase : base ≤ w.heap.size)
    (h : ∀ v' w', w'.ownsRow base e size v' (n + m) (xs ++ news) → w.grownBy w' v.ownBlock → K (a.put o.dst v') w') : o.wp P a w K Q := by
  obtain ⟨v', w', hr, h2, h3⟩ := run_append_all (P := P) (w := w) base t o.type e i z size bytes ht hi hz hsize hby hzs hsz v n xs hown ad m c news hl hnews h1 h63 hbytes hbase
  unfold Oper.wp execOp
  simp only [ho, resolve, invoke, builtin, Sem.run_bind, Sem.run_pure, Result.andThen_ok, List.map_toArray, List.map_cons, List.map_nil, hs, hx, hr]
  exact h v' w' h2 h3
theorem wpList_append_all {ops : Array Oper} {rest : List Oper} {o : Oper} {a : Act} {Q : Exit → Act → World → Prop} (hgd : o.guard = none) (s x : Operand) (t : TypeId)
    (ho : o.op = .call { callee := .builtin .append, args := #[s, x], argTypes := #[t, t] })
    (base : Nat) (e : TypeId) (i : TypeInfo) (z : Value) (size bytes : Nat) (ht : P.underlying t = some (.slice e)) (hi : P.info? e = some i) (hz : i.zero = some z)
    (hsize : i.size = size) (hby : i.bytes = bytes) (hzs : z.cells.size = size) (hsz : 0 < size)
    (v : Value) (n : Nat) (xs : List Value) (hs : a.eval s = v) (hown : w.ownsRow base e size v n xs)
    (ad : Option Addr) (m c : Nat) (news : List Value) (hx : a.eval x = .slice ad m c) (hl : news.length = m * size) (hnews : ∀ j u, news[j]? = some u → ∃ x, ad = some x ∧ w.cell? (x.add j) = some u) (h1 : ∀ u ∈ news, u.oneCell' = true)
    (h63 : n + m ≤ maxLen) (hbytes : (n + m) * bytes ≤ 140737488355328) (hbase : base ≤ w.heap.size)
    (h : ∀ v' w', w'.ownsRow base e size v' (n + m) (xs ++ news) → w.grownBy w' v.ownBlock → wpList P ops Q rest (a.put o.dst v') w') : wpList P ops Q (o :: rest) a w :=
  wpList_plain hgd fun _ hK => wp_append_all s x t ho base e i z size bytes ht hi hz hsize hby hzs hsz v n xs hs hown ad m c news hx hl hnews h1 h63 hbytes hbase fun v' w' h2 h3 => hK _ _ (h v' w' h2 h3)
theorem step_append_all {ops : Array Oper} {o : Oper} {a : Act} {K : Act → World → Prop} {Q : Exit → Act → World → Prop} {E : Prop} (hgd : o.guard = none) (s x : Operand) (t : TypeId)
    (ho : o.op = .call { callee := .builtin .append, args := #[s, x], argTypes := #[t, t] })
    (base : Nat) (e : TypeId) (i : TypeInfo) (z : Value) (size bytes : Nat) (ht : P.underlying t = some (.slice e)) (hi : P.info? e = some i) (hz : i.zero = some z)
    (hsize : i.size = size) (hby : i.bytes = bytes) (hzs : z.cells.size = size) (hsz : 0 < size)
    (v : Value) (n : Nat) (xs : List Value) (hs : a.eval s = v) (hown : w.ownsRow base e size v n xs)
    (ad : Option Addr) (m c : Nat) (news : List Value) (hx : a.eval x = .slice ad m c) (hl : news.length = m * size) (hnews : ∀ j u, news[j]? = some u → ∃ x, ad = some x ∧ w.cell? (x.add j) = some u) (h1 : ∀ u ∈ news, u.oneCell' = true)
    (h63 : n + m ≤ maxLen) (hbytes : (n + m) * bytes ≤ 140737488355328) (hbase : base ≤ w.heap.size)
    (h : ∀ v' w', w'.ownsRow base e size v' (n + m) (xs ++ news) → w.grownBy w' v.ownBlock → K (a.put o.dst v') w') :
    if Region.wanted o (yielded ops a.tmps) = true then Oper.wp P o a w K Q else E := by
  have hw : Region.wanted o (yielded ops a.tmps) = true := by simp [Region.wanted, hgd]
  rw [if_pos hw]
  exact wp_append_all s x t ho base e i z size bytes ht hi hz hsize hby hzs hsz v n xs hs hown ad m c news hx hl hnews h1 h63 hbytes hbase h
end
theorem intsV_each (l : List Int) : ∀ u ∈ intsV l, u.oneCell' = true := by intro u hu; unfold intsV at hu; rw [List.mem_map] at hu; obtain ⟨x, -, rfl⟩ := hu; rfl
/-- The cells that a whole slice brings. -/
theorem newsI {w : World} {a : Option Addr} {c : Nat} {l : List Int} (h : ReadI w (.slice a l.length c) l) : ∀ j u, (intsV l)[j]? = some u → ∃ x, a = some x ∧ w.cell? (x.add j) = some u := by
  intro j u hu
  have hj : j < l.length := by
    have := (List.getElem?_eq_some_iff.1 hu).1
    rwa [intsV_length] at this
  rw [intsV_get l j hj] at hu
  obtain ⟨a', cap, hv, hc⟩ := h
  cases hv
  obtain ⟨x, hx, hcell⟩ := hc j hj
  exact ⟨x, hx, by rw [hcell, ← hu]⟩
theorem depsV_one (l : List (Int × Int)) : ∀ u ∈ depsV l, u.oneCell' = true := by
  induction l with
  | nil => intro u hu; cases hu
  | cons d l ih =>
    intro u hu
    unfold depsV at hu
    rcases List.mem_cons.1 hu with rfl | hu
    · rfl
    · rcases List.mem_cons.1 hu with rfl | hu
      · rfl
      · exact ih u hu
theorem cell_inB {w w' : World} {p : Addr} {v : Value} (h : w.cell? p = some v) (b : Below w.heap.size w w') : w'.cell? p = some v := (b.cell (World.block_lt_of_cell? w _ h)).trans h
theorem add_off (b o j : Nat) : (⟨b, o, none⟩ : Addr).add j = ⟨b, o + j, none⟩ := by unfold Addr.add; split <;> simp_all
theorem newsD {w : World} {a : Option Addr} {c : Nat} {l : List (Int × Int)} (h : ReadD w (.slice a l.length c) l) : ∀ j u, (depsV l)[j]? = some u → ∃ x, a = some x ∧ w.cell? (x.add j) = some u := by
  intro j u hu
  have hj : j < l.length * 2 := by
    have := (List.getElem?_eq_some_iff.1 hu).1
    rwa [depsV_len] at this
  obtain ⟨a', cap, hv, hc⟩ := h
  cases hv
  have hi : j / 2 < l.length := by omega
  obtain ⟨b, o, ha, h0, h1⟩ := hc (j / 2) hi
  obtain ⟨g0, g1⟩ := depsV_get l (j / 2) hi
  refine ⟨⟨b, o, none⟩, ha, ?_⟩
  rw [add_off]
  rcases Nat.mod_two_eq_zero_or_one j with hm | hm
  · have e : j / 2 * 2 = j := by omega
    rw [e] at h0 g0
    rw [h0, ← hu, g0]
  · have e : j / 2 * 2 + 1 = j := by omega
    have e2 : o + j / 2 * 2 + 1 = o + j := by omega
    rw [e2] at h1
    rw [e] at g1
    rw [h1, ← hu, g1]
/-- The value of a row of a slice of rows. -/
def rowV (w : World) (a : Option Addr) (i : Nat) : Value := match a with | some x => (w.cell? (x.add i)).getD (.slice none 0 0) | none => .slice none 0 0
theorem rowV_at {w : World} {v : Value} {ll : List (List Int)} (h : ReadSS w v ll) : ∃ a c, v = .slice a ll.length c ∧ ∀ i, i < ll.length → ReadI w (rowV w a i) (ll.getD i []) ∧ ∃ x, a = some x ∧ w.cell? (x.add i) = some (rowV w a i) := by
  obtain ⟨a, c, hv, hc⟩ := h
  refine ⟨a, c, hv, fun i hi => ?_⟩
  obtain ⟨x, u, rfl, hx, hr⟩ := hc i hi
  have e : rowV w (some x) i = u := by simp only [rowV, hx]; rfl
  rw [e]
  exact ⟨hr, x, rfl, hx⟩
theorem newsR {w : World} {a : Option Addr} {n : Nat} (h : ∀ i, i < n → ∃ x, a = some x ∧ w.cell? (x.add i) = some (rowV w a i)) : ∀ j u, ((List.range n).map (rowV w a))[j]? = some u → ∃ x, a = some x ∧ w.cell? (x.add j) = some u := by
  intro j u hu
  have hj : j < n := by simpa using (List.getElem?_eq_some_iff.1 hu).1
  obtain ⟨x, hx, hc⟩ := h j hj
  rw [List.getElem?_map, List.getElem?_range hj] at hu
  simp only [Option.map_some, Option.some.injEq] at hu
  exact ⟨x, hx, by rw [hc, hu]⟩
theorem rowV_one {w : World} {a : Option Addr} {n : Nat} {ll : List (List Int)} (h : ∀ i, i < n → ReadI w (rowV w a i) (ll.getD i [])) : ∀ u ∈ (List.range n).map (rowV w a), u.oneCell' = true := by
  intro u hu
  rw [List.mem_map] at hu
  obtain ⟨i, hi, rfl⟩ := hu
  obtain ⟨b, c, e, -⟩ := h i (List.mem_range.1 hi)
  rw [e]
  rfl
/-- A new row of the call's own without cells. -/
theorem own_made (w : World) (B : Nat) (T : TypeId) (n : Nat) (hB : B ≤ w.heap.size) : (w.alloc (.cells #[] T)).ownsRow B T n (.slice (some ⟨w.heap.size, 0, none⟩) 0 0) 0 [] := World.ownsRow_made w #[] 0 hB (by unfold maxLen; omega) (by simp)
end Go.Proofs.Ytbbbdabmbiggkaa
namespace Go.Proofs.Ytbbbdabmbiggkaa
open Go.RowKit

section
variable {P : Program} {w : World}
/-- A slice that is full, or a row of the call's own. -/
def ForO (w : World) (B : Nat) (v : Value) (l : List Int) : Prop := OwnI w B v l ∨ ∃ a, v = .slice a l.length l.length ∧ (a = none → l = []) ∧ ∀ i (h : i < l.length), ∃ x, a = some x ∧ w.cell? (x.add i) = some (.int .i64 l[i])
theorem run_append_for (base : Nat) (t ty : TypeId) (i : TypeInfo) (ht : P.underlying t = some (.slice 3)) (hi : P.info? 3 = some i) (hz : i.zero = some (.int .i64 0))
    (hsize : i.size = 1) (hby : i.bytes = 8) (v : Value) (l : List Int) (hown : ForO w base v l) (v2 : Value) (l2 : List Int) (h2 : ReadI w v2 l2) (h63 : l.length + l2.length ≤ 1048576) (hbase : base ≤ w.heap.size) :
    ∃ v' w', (Builtin.append_ #[t, t] ty #[v, v2]).run P w = .ok v' w' ∧ ForO w' base v' (l ++ l2) ∧ Below base w w' := by
  obtain ⟨a2, c2, rfl, hc2⟩ := h2
  have hn2 := newsI ⟨a2, c2, rfl, hc2⟩
  rcases hown with ho | ⟨a, rfl, hnone, hcells⟩
  · obtain ⟨v', w', r1, r2, r3⟩ := run_append_all (P := P) base t ty 3 i (.int .i64 0) 1 8 ht hi hz hsize hby rfl (by decide) v l.length (intsV l) ho a2 l2.length c2 (intsV l2) (by rw [intsV_length]; omega) hn2 (intsV_each l2) (by unfold maxLen; omega) (by omega) hbase
    refine ⟨v', w', r1, .inl ?_, (Below.refl base w).grown r3 hbase fun k hk => (OwnI.lt ho k hk).1⟩
    unfold OwnI
    rw [List.length_append, show intsV (l ++ l2) = intsV l ++ intsV l2 from List.map_append]
    exact r2
  · cases hl2 : l2 with
    | nil =>
      subst hl2
      refine ⟨_, w, ?_, .inr ⟨a, by rw [List.append_nil], fun h => by rw [hnone h]; rfl, fun i h => ?_⟩, Below.refl _ _⟩
      · cases a <;> cases a2 <;> simp [Builtin.append_, run_underlying ht, sizeOf, typeInfo, hi, Builtin.lenOf, Builtin.firstCells, storeCells, loadCells, loadCellsFrom]
      · rw [List.append_nil] at h
        obtain ⟨x, e, hx⟩ := hcells i h
        exact ⟨x, e, by rw [hx]; simp⟩
    | cons y ys =>
      rw [← hl2]
      have hpos : 0 < l2.length := by rw [hl2]; simp
      obtain ⟨x2, rfl, -⟩ := hc2 0 hpos
      have hn3 : ∀ j u, (intsV l2)[j]? = some u → w.cell? (x2.add j) = some u := fun j u hu => by
        obtain ⟨z, hz, h⟩ := hn2 j u hu
        cases hz
        exact h
      have fin : ∀ v' w', w'.ownsRow w.heap.size 3 1 v' (l.length + l2.length) (intsV l ++ intsV l2) → w.grownBy w' none → ForO w' base v' (l ++ l2) ∧ Below base w w' := fun v' w' r1 r2 => by
        refine ⟨.inl (OwnI.base (B := w.heap.size) ?_ hbase), (Below.refl base w).grown r2 hbase (by simp)⟩
        unfold OwnI
        rw [List.length_append, show intsV (l ++ l2) = intsV l ++ intsV l2 from List.map_append]
        exact r1
      cases a with
      | some b =>
        obtain ⟨v', w', hrun, r1, r2⟩ := run_append_arg_grows (P := P) w t ty 3 i (.int .i64 0) 1 8 ht hi hz hsize hby rfl (by decide) b l.length l.length (intsV l) (by rw [intsV_length]; omega) (fun j u hu => by
          have hj : j < l.length := by have := (List.getElem?_eq_some_iff.1 hu).1; rwa [intsV_length] at this
          obtain ⟨z, hz, h⟩ := hcells j hj
          cases hz
          rw [h, ← hu, intsV_get l j hj]) x2 l2.length c2 (intsV l2) (by rw [intsV_length]; omega) hn3 (by omega) (by unfold maxLen; omega) (by omega)
        exact ⟨v', w', hrun, fin v' w' r1 r2⟩
      | none =>
        obtain rfl := hnone rfl
        obtain ⟨v', w', hrun, r1, r2, -⟩ := run_append_own (P := P) w w.heap.size t ty 3 i (.int .i64 0) 1 8 ht hi hz hsize hby rfl (by decide) (.slice none 0 0) 0 [] (World.ownsRow_nil w _ _ 1) x2 l2.length c2 (intsV l2) (by rw [intsV_length]; omega) hn3 (intsV_each l2) (by unfold maxLen; omega) (by simp at h63 ⊢; omega) (Nat.le_refl _)
        exact ⟨v', w', hrun, fin v' w' (by simpa [intsV] using r1) r2⟩
theorem wp_append_for {o : Oper} {a : Act} {K : Act → World → Prop} {Q : Exit → Act → World → Prop} (s x : Operand) (t : TypeId)
    (ho : o.op = .call { callee := .builtin .append, args := #[s, x], argTypes := #[t, t] })
    (base : Nat) (i : TypeInfo) (ht : P.underlying t = some (.slice 3)) (hi : P.info? 3 = some i) (hz : i.zero = some (.int .i64 0))
    (hsize : i.size = 1) (hby : i.bytes = 8) (v : Value) (l : List Int) (hs : a.eval s = v) (hown : ForO w base v l) (v2 : Value) (l2 : List Int) (hx : a.eval x = v2) (h2 : ReadI w v2 l2) (h63 : l.length + l2.length ≤ 1048576) (hbase : base ≤ w.heap.size)
    (h : ∀ v' w', ForO w' base v' (l ++ l2) → Below base w w' → K (a.put o.dst v') w') : o.wp P a w K Q := by
  obtain ⟨v', w', hr, h3, h4⟩ := run_append_for (P := P) (w := w) base t o.type i ht hi hz hsize hby v l hown v2 l2 h2 h63 hbase
  unfold Oper.wp execOp
  simp only [ho, resolve, invoke, builtin, Sem.run_bind, Sem.run_pure, Result.andThen_ok, List.map_toArray, List.map_cons, List.map_nil, hs, hx, hr]
  exact h v' w' h3 h4
theorem wpList_append_for {ops : Array Oper} {rest : List Oper} {o : Oper} {a : Act} {Q : Exit → Act → World → Prop} (hgd : o.guard = none) (s x : Operand) (t : TypeId)
    (ho : o.op = .call { callee := .builtin .append, args := #[s, x], argTypes := #[t, t] })
    (base : Nat) (i : TypeInfo) (ht : P.underlying t = some (.slice 3)) (hi : P.info? 3 = some i) (hz : i.zero = some (.int .i64 0))
    (hsize : i.size = 1) (hby : i.bytes = 8) (v : Value) (l : List Int) (hs : a.eval s = v) (hown : ForO w base v l) (v2 : Value) (l2 : List Int) (hx : a.eval x = v2) (h2 : ReadI w v2 l2) (h63 : l.length + l2.length ≤ 1048576) (hbase : base ≤ w.heap.size)
    (h : ∀ v' w', ForO w' base v' (l ++ l2) → Below base w w' → wpList P ops Q rest (a.put o.dst v') w') : wpList P ops Q (o :: rest) a w :=
  wpList_plain hgd fun _ hK => wp_append_for s x t ho base i ht hi hz hsize hby v l hs hown v2 l2 hx h2 h63 hbase fun v' w' h2 h3 => hK _ _ (h v' w' h2 h3)
theorem step_append_for {ops : Array Oper} {o : Oper} {a : Act} {K : Act → World → Prop} {Q : Exit → Act → World → Prop} {E : Prop} (hgd : o.guard = none) (s x : Operand) (t : TypeId)
    (ho : o.op = .call { callee := .builtin .append, args := #[s, x], argTypes := #[t, t] })
    (base : Nat) (i : TypeInfo) (ht : P.underlying t = some (.slice 3)) (hi : P.info? 3 = some i) (hz : i.zero = some (.int .i64 0))
    (hsize : i.size = 1) (hby : i.bytes = 8) (v : Value) (l : List Int) (hs : a.eval s = v) (hown : ForO w base v l) (v2 : Value) (l2 : List Int) (hx : a.eval x = v2) (h2 : ReadI w v2 l2) (h63 : l.length + l2.length ≤ 1048576) (hbase : base ≤ w.heap.size)
    (h : ∀ v' w', ForO w' base v' (l ++ l2) → Below base w w' → K (a.put o.dst v') w') :
    if Region.wanted o (yielded ops a.tmps) = true then Oper.wp P o a w K Q else E := by
  have hw : Region.wanted o (yielded ops a.tmps) = true := by simp [Region.wanted, hgd]
  rw [if_pos hw]
  exact wp_append_for s x t ho base i ht hi hz hsize hby v l hs hown v2 l2 hx h2 h63 hbase h
end
theorem ForO.read {w : World} {B : Nat} {v : Value} {l : List Int} (h : ForO w B v l) : ∃ a c, v = .slice a l.length c ∧ l.length ≤ c ∧ ∀ i (h : i < l.length), ∃ x, a = some x ∧ w.cell? (x.add i) = some (.int .i64 l[i]) := by
  rcases h with h | ⟨a, rfl, -, hc⟩
  · obtain ⟨a, c, e, hc⟩ := h.read
    refine ⟨a, c, e, ?_, hc⟩
    rcases h.2 with ⟨e', hn⟩ | ⟨g, cap, cur, e', -, -, hn, -⟩
    · omega
    · rw [e] at e'
      injection e' with _ _ e3
      omega
  · exact ⟨a, _, rfl, Nat.le_refl _, hc⟩
/-- A part of a slice that can be read. -/
theorem ReadI.from {w : World} {a : Option Addr} {c : Nat} {l : List Int} (hc : ∀ i (h : i < l.length), ∃ x, a = some x ∧ w.cell? (x.add i) = some (.int .i64 l[i])) (k : Nat) (hk : k < l.length) (x : Addr) (hx : a = some x) {ao : Option Addr} (hao : k < l.length - 0 → k ≠ c → ao = some (x.add k)) (m cc : Nat) (hm : m = l.length - k) (hkc : k = c → l.length ≤ k) : ReadI w (.slice ao m cc) (l.drop k) := by
  refine ⟨ao, cc, by rw [List.length_drop, hm], fun i hi => ?_⟩
  rw [List.length_drop] at hi
  have hne : k ≠ c := fun e => by have := hkc e; omega
  refine ⟨x.add k, hao (by omega) hne, ?_⟩
  obtain ⟨y, e, h⟩ := hc (k + i) (by omega)
  rw [hx] at e
  cases e
  rw [Addr.add_add, h]
  simp
end Go.Proofs.Ytbbbdabmbiggkaa
