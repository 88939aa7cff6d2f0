/- Texts of this claim, merged: PrjA, PrjB, PrjC, PrjS, PrjD. Conditions: as stated. -/
import Derived.Test.YtpkcffbfgocndaaGreatDoorMd
import Derived.Test.YtpkcffbfgocndaaGreatDoorMh
import Derived.Test.YtpkcffbfgocndaaGreatDoorMe
import Derived.Deep.RegionHeld3
import Derived.RegionTactic
import Derived.Laws.CopyOwn
import Derived.Test.YtpkcffbfgocndaaGreatDoorSrtL
import Derived.Lib.SliceRun
import Derived.BigFrame
namespace Go.Proofs.YtpkcffbfgocndaaGreatDoor
open Go.RowKit

def cmpI (x y : Int) : Int := if x < y then -1 else if y < x then 1 else 0
theorem isNaN_any (x : Int) (w : World) : Calls Tryz.prog 116 #[.int .i64 x] w fun e w' => e = .returned (.bool false) ∧ w = w' := by
  go_enter Tryz.func116, Tryz.ntmps116
  go_wp2
  go_ret
  exact ⟨ret_b (by simp), rfl⟩
theorem cmpI_any (x y : Int) (w : World) : Calls Tryz.prog 103 #[.int .i64 x, .int .i64 y] w fun e w' => e = .returned (.int .i64 (cmpI x y)) ∧ w = w' := by
  have HN := Lib.hid (fun z w => isNaN_any z w)
  by_cases h1 : x < y
  · have HE : Hid (cmpI x y = -1) := Lib.hid (by unfold cmpI; rw [if_pos h1])
    go_enter Tryz.func103, Tryz.ntmps103
    go_wp2_with (go_at_call 116; refine (HN.out _ _).mono ?_; rintro e w' ⟨rfl, rfl⟩)
    go_ret
    exact ⟨by rw [HE.out]; rfl, rfl⟩
  · by_cases h2 : y < x
    · have HE : Hid (cmpI x y = 1) := Lib.hid (by unfold cmpI; rw [if_neg h1, if_pos h2])
      go_enter Tryz.func103, Tryz.ntmps103
      go_wp2_with (go_at_call 116; refine (HN.out _ _).mono ?_; rintro e w' ⟨rfl, rfl⟩)
      go_ret
      exact ⟨by rw [HE.out]; rfl, rfl⟩
    · have HE : Hid (cmpI x y = 0) := Lib.hid (by unfold cmpI; rw [if_neg h1, if_neg h2])
      go_enter Tryz.func103, Tryz.ntmps103
      go_wp2_with (go_at_call 116; refine (HN.out _ _).mono ?_; rintro e w' ⟨rfl, rfl⟩)
      go_ret
      exact ⟨by rw [HE.out]; rfl, rfl⟩

/-- The order of rows as a number. -/
def cmpL : List Int → List Int → Int
  | [], [] => 0
  | [], _ :: _ => -1
  | _ :: _, [] => 1
  | a :: s, b :: t => if cmpI a b = 0 then cmpL s t else cmpI a b
theorem cmpI_zero {x y : Int} : cmpI x y = 0 ↔ x = y := by
  unfold cmpI
  split
  · constructor <;> (intro; omega)
  · split
    · constructor <;> (intro; omega)
    · constructor <;> (intro; omega)
theorem cmpL_less : ∀ (a b : List Int), decide (cmpL a b < 0) = lessR a b
  | [], [] => rfl
  | [], _ :: _ => rfl
  | _ :: _, [] => rfl
  | a :: s, b :: t => by
    unfold cmpL lessR
    by_cases h : a = b
    · rw [if_pos (cmpI_zero.2 h), if_pos h]; exact cmpL_less s t
    · rw [if_neg (fun e => h (cmpI_zero.1 e)), if_neg h]
      unfold cmpI
      by_cases h1 : a < b
      · simp [h1]
      · rw [if_neg h1, if_pos (by omega)]; simp [h1]
theorem cmpL_drop {a b : List Int} {k : Nat} (h1 : k < a.length) (h2 : k < b.length) : cmpL (a.drop k) (b.drop k) = if cmpI a[k] b[k] = 0 then cmpL (a.drop (k + 1)) (b.drop (k + 1)) else cmpI a[k] b[k] := by
  rw [List.drop_eq_getElem_cons h1, List.drop_eq_getElem_cons h2]; rfl

set_option maxHeartbeats 800000 in
theorem slCompare_any (v v' : Value) (l l' : List Int) (w : World) (hr : ReadI w v l) (hr' : ReadI w v' l') (hl : l.length ≤ 1000000000) (hl' : l'.length ≤ 1000000000) :
    Calls Tryz.prog 80 #[v, v'] w fun e w' => e = .returned (.int .i64 (cmpL l l')) ∧ w = w' := by
  obtain ⟨a, cap, rfl, ha⟩ := hr
  obtain ⟨a', cap', rfl, ha'⟩ := hr'
  have HA := Lib.hid ha
  have HA' := Lib.hid ha'
  clear ha ha'
  have HC := Lib.hid (fun x y w => cmpI_any x y w)
  go_enter Tryz.func80, Tryz.ntmps80
  go_wp2_with fail
  go_loop [11] (fun iv => ∃ (k : Nat), k ≤ l.length ∧ k ≤ l'.length ∧ iv = .int .i64 (k : Int) ∧ Hid (cmpL l l' = cmpL (l.drop k) (l'.drop k))) (fun iv => l.length - (intOf iv).toNat)
  case atStart => exact ⟨0, by omega, by omega, rfl, Lib.hid (by simp)⟩
  case round =>
    obtain ⟨k, hk, hk', rfl, hsame⟩ := hrel
    by_cases hlt : k < l.length
    · obtain ⟨x, rfl, hx⟩ := HA.out k hlt
      have z0 : (0 : Int) ≤ (k : Int) := by omega
      have z1 : (k : Int) < (l.length : Int) := by omega
      by_cases hlt' : k < l'.length
      · obtain ⟨x', rfl, hx'⟩ := HA'.out k hlt'
        have z2 : (k : Int) < (l'.length : Int) := by omega
        have z3 : ¬ (l'.length : Int) ≤ (k : Int) := by omega
        have HS := Lib.hid (cmpL_drop hlt hlt')
        obtain ⟨y, hy⟩ : ∃ y, l[k] = y := ⟨_, rfl⟩
        obtain ⟨y', hy'⟩ : ∃ y', l'[k] = y' := ⟨_, rfl⟩
        rw [hy, hy'] at HS
        rw [hy] at hx
        rw [hy'] at hx'
        clear hy hy'
        have HQ := Lib.hid (cmpI_any y y' w)
        by_cases he : cmpI y y' = 0
        · rw [he] at HQ
          have HE := Lib.hid he
          clear he
          go_wp2_with fail
          refine HQ.out.mono ?_
          rintro e w' ⟨rfl, rfl⟩
          go_wp2_with fail
          go_round
          case rel => exact ⟨k + 1, by omega, by omega, by go_num, Lib.hid (by rw [hsame.out, HS.out, if_pos HE.out])⟩
          case measure => simp [intOf]; omega
        · have HE := Lib.hid he
          obtain ⟨z, hz⟩ : ∃ z, cmpI y y' = z := ⟨_, rfl⟩
          have hn : (z != 0) = true := by rw [← hz]; simpa using he
          have HZ := Lib.hid hz
          rw [hz] at HQ
          clear he hz
          go_wp2_with fail
          refine HQ.out.mono ?_
          rintro e w' ⟨rfl, rfl⟩
          go_wp2_with fail
          go_ret
          exact ⟨by rw [hsame.out, HS.out, if_neg HE.out, HZ.out]; rfl, rfl⟩
      · have z3 : (l'.length : Int) ≤ (k : Int) := by omega
        go_wp2_with fail
        go_ret
        exact ⟨by rw [hsame.out, List.drop_eq_getElem_cons hlt, List.drop_of_length_le (by omega : l'.length ≤ k)]; rfl, rfl⟩
    · by_cases hlt' : l.length < l'.length
      · have z3 : (l.length : Int) < (l'.length : Int) := by omega
        have HK : Hid (k = l.length) := Lib.hid (by omega)
        go_wp2_with fail
        go_ret
        exact ⟨by rw [hsame.out, List.drop_of_length_le (by have := HK.out; omega : l.length ≤ k), List.drop_eq_getElem_cons (by have := HK.out; omega : k < l'.length)]; rfl, rfl⟩
      · have z3 : ¬ (l.length : Int) < (l'.length : Int) := by omega
        have HK : Hid (k = l.length) := Lib.hid (by omega)
        go_wp2_with fail
        go_ret
        exact ⟨by rw [hsame.out, List.drop_of_length_le (by have := HK.out; omega : l.length ≤ k), List.drop_of_length_le (by omega : l'.length ≤ k)]; rfl, rfl⟩
end Go.Proofs.YtpkcffbfgocndaaGreatDoor
namespace Go.Proofs.YtpkcffbfgocndaaGreatDoor
open Go.RowKit

/-- The block b holds the values r, and 0 behind them, in five cells. -/
def RecAt (w : World) (b : Nat) (r : List Int) : Prop := ∀ j, j < 5 → w.cell? ⟨b, j, none⟩ = some (.int .i64 (r.getD j 0)) ∧ w.frozen? ⟨b, j, none⟩ = false
theorem RecAt.kept {w w' : World} {b C : Nat} {r : List Int} (h : RecAt w b r) (hb : Below C w w') (hC : b < C) : RecAt w' b r := fun j hj => ⟨(hb.cell hC).trans (h j hj).1, (hb.frozen hC).trans (h j hj).2⟩
theorem getD_end (l : List Int) (j : Nat) (h : l.length ≤ j) : l.getD j 0 = 0 := by rw [List.getD_eq_getElem?_getD, List.getElem?_eq_none h]; rfl
theorem getD_app (l : List Int) (x : Int) (j : Nat) : (l ++ [x]).getD j 0 = if j = l.length then x else l.getD j 0 := by
  by_cases h : j < l.length + 1
  · rw [getD_snoc _ _ _ _ h]
    by_cases h2 : j = l.length
    · simp [h2]
    · rw [if_pos (by omega), if_neg h2]
  · rw [if_neg (by omega), getD_end l j (by omega), getD_end (l ++ [x]) j (by rw [List.length_append, List.length_singleton]; omega)]
theorem RecAt.store {w : World} {b : Nat} {l : List Int} (h : RecAt w b l) (x : Int) (h5 : l.length < 5) : RecAt (w.setCell ⟨b, l.length, none⟩ (.int .i64 x)) b (l ++ [x]) := by
  intro j hj
  rw [getD_app, World.frozen?_setCell]
  refine ⟨?_, (h j hj).2⟩
  by_cases hjl : j = l.length
  · subst hjl
    rw [if_pos rfl]
    exact World.cell?_setCell_same _ _ _ (h _ h5).1
  · rw [if_neg hjl]
    exact (World.cell?_setCell_other _ _ _ _ (by intro e; simp only [Addr.mk.injEq] at e; omega)).trans (h j hj).1
theorem RecAt.drewN {w : World} {b : Nat} {l : List Int} (h : RecAt w b l) (n : Nat) : RecAt (w.drewN n) b l := fun j hj => h j hj
theorem RecAt.fresh (w : World) : RecAt (w.alloc (.cells #[.int .i64 0, .int .i64 0, .int .i64 0, .int .i64 0, .int .i64 0] 84)) w.heap.size [] := by
  intro j hj
  rw [show ([] : List Int).getD j 0 = 0 by simp]
  refine ⟨?_, ?_⟩
  · rw [World.cell?_alloc_mark w #[.int .i64 0, .int .i64 0, .int .i64 0, .int .i64 0, .int .i64 0] 84 (0, 0) j]
    rcases (show j = 0 ∨ j = 1 ∨ j = 2 ∨ j = 3 ∨ j = 4 by omega) with rfl | rfl | rfl | rfl | rfl <;> rfl
  · exact World.frozen?_alloc_new _ _ _ _
set_option maxHeartbeats 1600000 in
theorem recordOf_any (v vc : Value) (r cs : List Int) (w : World) (hr : ReadI w v r) (hc : ReadI w vc cs) (h5 : cs.length ≤ 5) (hin : ∀ x ∈ cs, 0 ≤ x ∧ x < (r.length : Int)) :
    Calls Tryz.prog 44 #[v, vc] w fun e w' => ∃ b, e = .returned (.pointer (some ⟨b, 0, none⟩)) ∧ RecAt w' b (cs.map fun k => r.getD k.toNat 0) ∧ w.heap.size ≤ b ∧ b < w'.heap.size ∧ Below w.heap.size w w' := by
  obtain ⟨a, cap, rfl, ha⟩ := hr
  obtain ⟨a', cap', rfl, ha'⟩ := hc
  have HA := Lib.hid ha
  have HA' := Lib.hid ha'
  have HIN := Lib.hid hin
  clear ha ha' hin
  have hb1 := (Below.refl w.heap.size w).alloc (Nat.le_refl _) (.cells #[.int .i64 0, .int .i64 0, .int .i64 0, .int .i64 0, .int .i64 0] 84)
  have hrec := RecAt.fresh w
  have hsz : w.heap.size < (w.alloc (.cells #[.int .i64 0, .int .i64 0, .int .i64 0, .int .i64 0, .int .i64 0] 84)).heap.size := by simp
  go_enter Tryz.func44, Tryz.ntmps44
  go_wp2_with fail
  go_loopw [11] (fun iv wr => ∃ (k : Nat) (l : List Int), k ≤ cs.length ∧ iv = .int .i64 (k : Int) ∧ Hid (l = (cs.take k).map fun k => r.getD k.toNat 0) ∧ RecAt wr w.heap.size l ∧ w.heap.size < wr.heap.size ∧ Below w.heap.size w wr) (fun iv _ => cs.length - (intOf iv).toNat)
  case atStart => exact ⟨0, [], by omega, rfl, Lib.hid rfl, hrec, hsz, hb1⟩
  case round =>
    clear hrec hsz hb1
    obtain ⟨k, l, hk, rfl, hL, hrec, hsz, hb⟩ := hrel
    have hll : l.length = k := by rw [hL.out, List.length_map, List.length_take]; omega
    by_cases hlt : k < cs.length
    · obtain ⟨x', rfl, hx'⟩ := HA'.out k hlt
      have hin := HIN.out cs[k] (List.getElem_mem _)
      obtain ⟨q, hq⟩ : ∃ q : Nat, cs[k] = (q : Int) := ⟨cs[k].toNat, by omega⟩
      rw [hq] at hin hx'
      obtain ⟨x, rfl, hx⟩ := HA.out q (by omega)
      have hgd := get_getD r q (by omega)
      rw [hgd] at hx
      have hy := (hb.cell (World.block_lt_of_cell? w _ hx)).trans hx
      have hy' := (hb.cell (World.block_lt_of_cell? w _ hx')).trans hx'
      have HS := Lib.hid (map_take_succ cs (fun k => r.getD k.toNat 0) 0 k hlt)
      have hgc := get_getD cs k hlt
      rw [← hgc, hq, show ((q : Nat) : Int).toNat = q from rfl] at HS
      obtain ⟨y, hyy⟩ : ∃ y, r.getD q 0 = y := ⟨_, rfl⟩
      rw [hyy] at hy HS
      have z0 : (0 : Int) ≤ (k : Int) := by omega
      have z1 : (k : Int) < (cs.length : Int) := by omega
      have z2 : (k : Int) < 5 := by omega
      have z3 : (0 : Int) ≤ (q : Int) := by omega
      have z4 : (q : Int) < (r.length : Int) := by omega
      obtain ⟨hcell, hfz⟩ := hrec k (by omega)
      have HR := Lib.hid hrec
      have HB := Lib.hid hb
      have HLL := Lib.hid hll
      clear hx hx' hyy hgd hgc hq hrec hb hll hin
      go_wp2_with fail
      go_region
      go_wp2_with fail
      go_roundw
      case rel =>
        have hs := HR.out.store y (by rw [HLL.out]; omega)
        rw [HLL.out] at hs
        exact ⟨k + 1, _, by omega, by go_num, Lib.hid (by rw [HS.out, hL.out]), hs.drewN 1, by simpa using hsz, (HB.out.setCell (Nat.le_refl _) _).drew⟩
      case measure => simp [intOf]; omega
    · obtain rfl : k = cs.length := by omega
      go_wp2_with fail
      go_ret
      exact ⟨_, rfl, by have := hL.out; rw [List.take_length] at this; rw [← this]; exact hrec, Nat.le_refl _, hsz, hb⟩
/-- A record, read as a slice of five ints. -/
def pad5 (r : List Int) : List Int := (List.range 5).map fun j => r.getD j 0
theorem pad5_get (r : List Int) (j : Nat) (h : j < (pad5 r).length) : (pad5 r)[j] = r.getD j 0 := by simp [pad5]
theorem pad5_len (r : List Int) : (pad5 r).length = 5 := by simp [pad5]
theorem RecAt.read {w : World} {b : Nat} {r : List Int} (h : RecAt w b r) : ReadI w (.slice (some ⟨b, 0, none⟩) 5 5) (pad5 r) := by
  refine ⟨some ⟨b, 0, none⟩, 5, by rw [pad5_len], fun i hi => ⟨_, rfl, ?_⟩⟩
  rw [add_zero_off, (h i (by rw [pad5_len] at hi; exact hi)).1, pad5_get]
theorem cmpRec_any (b b' : Nat) (r r' : List Int) (w : World) (h : RecAt w b r) (h' : RecAt w b' r') :
    Calls Tryz.prog 68 #[.pointer (some ⟨b, 0, none⟩), .pointer (some ⟨b', 0, none⟩)] w fun e w' => e = .returned (.int .i64 (cmpL (pad5 r) (pad5 r'))) ∧ ∃ m, w' = w.drewN m := by
  have HQ := Lib.hid (fun n => (slCompare_any _ _ _ _ (w.drewN n) (h.drewN n).read (h'.drewN n).read (by rw [pad5_len]; omega) (by rw [pad5_len]; omega)).mono fun e w' (h : e = _ ∧ _ = w') => And.intro h.1 h.2.symm)
  obtain ⟨z, hz⟩ : ∃ z, cmpL (pad5 r) (pad5 r') = z := ⟨_, rfl⟩
  rw [hz] at HQ
  rw [hz]
  clear h h' hz
  go_enter Tryz.func68, Tryz.ntmps68
  go_wp2_with fail
  go_quiet ((go_at_call 80; exact Calls.quiet_of_same (HQ.out _)))
  go_wp2_with fail
  go_ret
  exact ⟨rfl, _, rfl⟩
end Go.Proofs.YtpkcffbfgocndaaGreatDoor
namespace Go.Proofs.YtpkcffbfgocndaaGreatDoor
open Go.RowKit

theorem splice_all {α : Type} (L cs : List α) (h : cs.length = L.length) : splice L 0 cs = cs := by
  unfold splice
  rw [List.take_zero, List.drop_of_length_le (by omega)]; simp
theorem madeRow {w : World} {B g n : Nat} {e : TypeId} {xs : List Value} (h : w.ownsRow B e 1 (.slice (some ⟨g, 0, none⟩) n n) n xs) : ∃ cur : List Value, w.heap[g]? = some (.cells cur.toArray e) ∧ cur.length = n := by
  rcases h.2 with ⟨h', _⟩ | ⟨g', cap, cur, h', hB, hgg, hnc, hm, hs, ht⟩
  · cases h'
  · simp at h'
    obtain ⟨rfl, rfl⟩ := h'
    exact ⟨cur.toList, by simpa using hgg, by simpa using hs⟩
theorem ownI_of {w : World} {B g : Nat} {l : List Int} (hB : B ≤ g) (h : w.heap[g]? = some (.cells (intsV l).toArray 3)) (hm : l.length ≤ maxLen) : OwnI w B (.slice (some ⟨g, 0, none⟩) l.length l.length) l :=
  ⟨by rw [intsV_length]; omega, .inr ⟨g, l.length, (intsV l).toArray, rfl, hB, h, Nat.le_refl _, hm, by simp [intsV_length], by rw [Nat.mul_one, List.take_of_length_le (by simp [intsV_length])]⟩⟩
set_option maxHeartbeats 1600000 in
theorem recRow_any (b n : Nat) (r : List Int) (w : World) (h : RecAt w b r) (hb : b < w.heap.size) (hn : n ≤ 5) :
    Calls Tryz.prog 46 #[.pointer (some ⟨b, 0, none⟩), .int .i64 (n : Int)] w (RetI ((pad5 r).take n) w) := by
  obtain ⟨i0, hi, hz0, hz1, hz2⟩ := info_parts info3j
  have HI : Hid (_ ∧ _ ∧ _ ∧ _) := Lib.hid ⟨hi, hz0, hz1, hz2⟩
  have HSZ : Hid (Option.map (fun x => x.size) (Tryz.prog.info? 3) = some 1) := Lib.hid (by rw [hi]; simp [hz1])
  clear hi hz0 hz1 hz2
  obtain ⟨X, hX⟩ : ∃ X, X = (pad5 r).take n := ⟨_, rfl⟩
  have hXl : X.length = n := by rw [hX, List.length_take, pad5_len]; omega
  have HRD : Hid (∀ w' : World, Below w.heap.size w w' → ∀ (j : Nat) (u : Value), (intsV X)[j]? = some u → w'.cell? ((⟨b, 0, none⟩ : Addr).add j) = some u) := Lib.hid fun w' hw j u hu => by
    have hj : j < X.length := by
      rw [List.getElem?_eq_some_iff] at hu
      obtain ⟨h1, -⟩ := hu
      rwa [intsV_length] at h1
    rw [intsV_get _ _ hj] at hu
    obtain rfl := Option.some.inj hu
    have hxj : X[j] = r.getD j 0 := by subst hX; rw [List.getElem_take, pad5_get]
    rw [add_zero_off, hw.cell hb, (h j (by omega)).1, hxj]
  rw [← hX]
  have HL := Lib.hid hXl
  have HB := Lib.hid hb
  clear hX h hb hXl
  go_enter Tryz.func46, Tryz.ntmps46
  go_wp2_with (first
    | (at_make; refine wpList_make_full _ rfl _ _ 37 rfl w.heap.size 3 i0 (.int .i64 0) 1 Tryz.underlying37 HI.out.1 HI.out.2.1 HI.out.2.2.1 .i64 .i64 _ _ n rfl rfl rfl rfl (by rw [HI.out.2.2.2]; omega) (by unfold maxLen; omega) (Nat.le_refl _) ?_; intro w0 hown0 hgrow0; have hb0 := (Below.refl w.heap.size w).grown hgrow0 (Nat.le_refl _) (by simp); obtain ⟨cur, hcur, hcl⟩ := madeRow hown0; clear hown0 hgrow0)
    | (refine wpList_copy_splice rfl (.tmp 8) (.tmp 11) 37 37 rfl 3 Tryz.underlying37 HSZ.out _ _ n n 5 5 rfl rfl w.heap.size 0 cur 3 hcur (intsV X) (by rw [intsV_length, HL.out]; exact (Nat.min_eq_right hn).symm) (fun _ => ⟨rfl, _, rfl, HRD.out _ hb0⟩) (by rw [intsV_length, HL.out, hcl]; omega) (intsV_one X) w.heap.size w hb0 (Nat.le_refl _) ?_; intro w1 hg1 hb1; rw [splice_all _ _ (by rw [intsV_length, HL.out, hcl])] at hg1; have ho := ownI_of (Nat.le_refl _) hg1.out (by rw [HL.out]; unfold maxLen; omega); rw [HL.out] at ho; clear hcur hcl))
  go_ret
  exact ⟨_, rfl, ho, hb1⟩
end Go.Proofs.YtpkcffbfgocndaaGreatDoor
namespace Go.Proofs.YtpkcffbfgocndaaGreatDoor
open Go.RowKit Go.Sort Go.Shelf

/-- The first cells of block g point to the records l, which lie below B in blocks of their own, none of them g. -/
structure Ptrs (w : World) (g : Nat) (l : List (Nat × List Int)) : Prop where
  cell : ∀ j, j < l.length → w.cell? ⟨g, j, none⟩ = some (.pointer (some ⟨(l.getD j (0, [])).1, 0, none⟩)) ∧ w.frozen? ⟨g, j, none⟩ = false
  recs : ∀ p ∈ l, RecAt w p.1 p.2 ∧ p.1 ≠ g ∧ p.1 < w.heap.size
theorem getD_mem {α : Type} (l : List α) (j : Nat) (d : α) (h : j < l.length) : l.getD j d ∈ l := by rw [List.getD_eq_getElem?_getD, List.getElem?_eq_getElem h]; exact List.getElem_mem _
theorem getD_get {α : Type} (l : List α) (j : Nat) (d : α) (h : j < l.length) : l.getD j d = l[j] := by rw [List.getD_eq_getElem?_getD, List.getElem?_eq_getElem h]; rfl

/-- Pointers that may be sorted: to records of the world w, none in block g. -/
structure RecP (w : World) (g : Nat) where
  val : Nat × List Int
  ok : RecAt w val.1 val.2 ∧ val.1 ≠ g ∧ val.1 < w.heap.size
def encP {w : World} {g : Nat} (x : RecP w g) : Value := .pointer (some ⟨x.1.1, 0, none⟩)
def cfP {w : World} {g : Nat} (x y : RecP w g) : Int := cmpL (pad5 x.1.2) (pad5 y.1.2)
theorem ltP {w : World} {g : Nat} (x y : RecP w g) : ltOf cfP x y = lessR (pad5 x.1.2) (pad5 y.1.2) := cmpL_less _ _
theorem lessR_ntrans {a b c : List Int} (h1 : lessR a b = false) (h2 : lessR b c = false) : lessR a c = false := by
  cases h : lessR a c with
  | false => rfl
  | true =>
    cases h3 : lessR c b with
    | true => rw [lessR_trans _ _ _ h h3] at h1; cases h1
    | false => rw [lessR_total _ _ h2 h3] at h1; rw [h1] at h; cases h
theorem swoP (w : World) (g : Nat) : SWO (ltOf (cfP (w := w) (g := g))) where
  irrefl x := by rw [ltP]; exact lessR_irrefl _
  trans x y z h1 h2 := by rw [ltP] at *; exact lessR_trans _ _ _ h1 h2
  ntrans x y z h1 h2 := by rw [ltP] at *; exact lessR_ntrans h1 h2
theorem recAt_sort {w : World} {g m : Nat} [Inhabited (RecP w g)] (os : Array Obj) (dk : Array (RecP w g)) (x : RecP w g) : RecAt (sortWorld encP w g 0 m dk os) x.1.1 x.1.2 := by
  obtain ⟨⟨b, r⟩, h1, h2, h3⟩ := x
  intro j hj
  obtain ⟨c1, c2⟩ := h1 j hj
  unfold sortWorld
  refine ⟨?_, ?_⟩
  · rw [cell?_grow _ _ _ (by rw [Sort.size_putRow]; exact h3), cell?_putRow_other _ _ _ _ _ _ (.inl h2), cell?_ahead]; exact c1
  · rw [frozen?_grow _ _ _ (by rw [Sort.size_putRow]; exact h3), frozen?_putRow, frozen?_ahead]; exact c2
theorem grownBy_sortP {w : World} {g m : Nat} [Inhabited (RecP w g)] (os : Array Obj) (d : Array (RecP w g)) : w.grownBy (sortWorld encP w g 0 m d os) (some g) := by
  unfold sortWorld
  refine ⟨rfl, rfl, rfl, by rw [size_grow, Sort.size_putRow]; exact Nat.le_add_right _ _, fun k hk hne => ?_⟩
  rw [heap_grow_old _ _ (by rw [Sort.size_putRow]; exact hk)]
  have : g ≠ k := fun e => hne (by rw [e])
  simp [putRow, mapBlock, Sort.ahead, Array.getElem?_modify, this]
/-- In order: none is less than one before it. -/
def Ordd (l : List (Nat × List Int)) : Prop := l.Pairwise fun p q => lessR (pad5 q.2) (pad5 p.2) = false
theorem sortRecs_some (g cap : Nat) (l : List (Nat × List Int)) (w : World) (h : Ptrs w g l) (hg : g < w.heap.size) (hl : l.length ≤ 1048576) (h0 : 0 < l.length) :
    Calls Tryz.prog 67 #[.slice (some ⟨g, 0, none⟩) l.length cap, .func (.func 68) #[] #[]] w fun e w' =>
      e = .returned (.tuple #[]) ∧ ∃ l', l'.Perm l ∧ Ordd l' ∧ Ptrs w' g l' ∧ w.grownBy w' (some g) := by
  haveI : Inhabited (RecP w g) := ⟨⟨l.getD 0 (0, []), h.recs _ (getD_mem _ _ _ h0)⟩⟩
  have eg : ∀ args w, (callFunc 68 args).run Tryz.prog w = .ok (.enter 68 args) w := enters_of Tryz.func68 (by kernel_rfl) rfl
  obtain ⟨L, hL⟩ : ∃ L : List (RecP w g), L.map (fun x => x.1) = l := ⟨l.attach.map fun p => ⟨p.1, h.recs p.1 p.2⟩, by
    rw [List.map_map]; exact List.attach_map_subtype_val l⟩
  have hlen : L.toArray.size = l.length := by rw [← hL]; simp
  have hget : ∀ j, j < l.length → (L.toArray[j]!).1 = l.getD j (0, []) := fun j hj => by
    have hj' : j < L.length := by simpa using (by rw [hlen]; exact hj : j < L.toArray.size)
    rw [getElem!_pos L.toArray j (by rw [hlen]; exact hj), getD_get _ _ _ hj]
    simp [← hL]
  have hH : Holds encP w g 0 L.toArray := fun j hj => by
    rw [hlen] at hj
    obtain ⟨c1, c2⟩ := h.cell j hj
    rw [Nat.zero_add]
    refine ⟨?_, c2⟩
    unfold encP
    rw [hget j hj]; exact c1
  have hcmp : CmpReads Tryz.prog 68 #[] encP (cfP (w := w) (g := g)) g 0 L.toArray.size w := fun m os dk _ x y =>
    cmpRec_any x.1.1 y.1.1 x.1.2 y.1.2 _ (recAt_sort os dk x) (recAt_sort os dk y)
  have hS := Any.slices_SortFunc sortL encP (fun _ => rfl) cfP (swoP w g) 68 #[] g 0 cap L.toArray w eg hcmp.lays hH hg (by rw [hlen]; omega)
  rw [hlen] at hS
  change Calls Tryz.prog 67 _ _ _ at hS
  refine hS.mono ?_
  rintro e w' ⟨rfl, d', m, os, hp, hs, rfl⟩
  have hds : d'.size = l.length := by rw [hp.1, hlen]
  have hgd : ∀ j, j < l.length → (d'[j]!).1 = (d'.toList.map fun x => x.1).getD j (0, []) := fun j hj => by
    rw [getElem!_pos d' j (by omega), getD_get _ _ _ (by simpa using (by omega : j < d'.size))]
    simp
  refine ⟨rfl, d'.toList.map (fun x => x.1), ?_, ?_, ⟨fun j hj => ?_, fun p hp' => ?_⟩, grownBy_sortP os d'⟩
  · have h2 := hp.2.2
    rw [Array.extract_eq_self_of_le (by omega), Array.extract_eq_self_of_le (by omega)] at h2
    have h3 := h2.map (fun x => x.1)
    rw [hL] at h3
    exact h3
  · unfold Ordd
    rw [List.pairwise_map, List.pairwise_iff_getElem]
    intro i j hi hj hij
    have h2 := hs i j (Nat.zero_le _) hij (by simp at hj; omega)
    rw [getElem!_pos d' j (by simpa using hj), getElem!_pos d' i (by simpa using hi), ltP] at h2
    simpa using h2
  · have hj' : j < l.length := by simp at hj; omega
    have hh := holds_grow encP _ os g 0 d' (by rw [Sort.size_putRow]; exact hg) (holds_putRow encP (Sort.ahead w m) g 0 L.toArray d' hH (by omega)) j (by omega)
    rw [Nat.zero_add] at hh
    refine ⟨?_, hh.2⟩
    rw [← hgd j hj']; exact hh.1
  · rw [List.mem_map] at hp'
    obtain ⟨x, -, rfl⟩ := hp'
    exact ⟨recAt_sort os d' x, x.2.2.1, Nat.lt_of_lt_of_le x.2.2.2 (grownBy_sortP os d').size⟩
theorem sortRecs_any (g cap : Nat) (l : List (Nat × List Int)) (w : World) (h : Ptrs w g l) (hg : g < w.heap.size) (hl : l.length ≤ 1048576) :
    Calls Tryz.prog 67 #[.slice (some ⟨g, 0, none⟩) l.length cap, .func (.func 68) #[] #[]] w fun e w' =>
      e = .returned (.tuple #[]) ∧ ∃ l', l'.Perm l ∧ Ordd l' ∧ Ptrs w' g l' ∧ w.grownBy w' (some g) := by
  by_cases h0 : 0 < l.length
  · exact sortRecs_some g cap l w h hg hl h0
  · obtain rfl : l = [] := List.eq_nil_of_length_eq_zero (by omega)
    have hS := AnyF.slices_SortFunc_none (P := Tryz.prog) (ρ := sortL_ren) { sortL with } (some ⟨g, 0, none⟩) cap (.func (.func 68) #[] #[]) w
    change Calls Tryz.prog 67 _ _ _ at hS
    refine hS.mono ?_
    rintro e w' ⟨rfl, rfl⟩
    exact ⟨rfl, [], List.Perm.refl _, List.Pairwise.nil, h, ⟨rfl, rfl, rfl, Nat.le_refl _, fun _ _ _ => rfl⟩⟩
end Go.Proofs.YtpkcffbfgocndaaGreatDoor
namespace Go.Proofs.YtpkcffbfgocndaaGreatDoor
open Go.RowKit

/-- One record more: left out if the last one kept holds the same values. -/
def ddStep (D : List (Nat × List Int)) (p : Nat × List Int) : List (Nat × List Int) :=
  if D ≠ [] ∧ pad5 (D.getD (D.length - 1) (0, [])).2 = pad5 p.2 then D else D ++ [p]
def ddL (l : List (Nat × List Int)) : List (Nat × List Int) := l.foldl ddStep []
theorem ddL_snoc (l : List (Nat × List Int)) (p : Nat × List Int) : ddL (l ++ [p]) = ddStep (ddL l) p := by unfold ddL; rw [List.foldl_append]; rfl
theorem ddL_succ (l : List (Nat × List Int)) (i : Nat) (h : i < l.length) : ddL (l.take (i + 1)) = ddStep (ddL (l.take i)) (l.getD i (0, [])) := by
  rw [take_succ_getD l (0, []) i h, ddL_snoc]
theorem ddStep_len (D : List (Nat × List Int)) (p : Nat × List Int) : D.length ≤ (ddStep D p).length ∧ (ddStep D p).length ≤ D.length + 1 := by
  unfold ddStep; split
  · omega
  · rw [List.length_append, List.length_singleton]; omega
theorem ddL_len (l : List (Nat × List Int)) : ∀ i, i ≤ l.length → (ddL (l.take i)).length ≤ i := by
  intro i
  induction i with
  | zero => intro _; simp [ddL]
  | succ i ih =>
    intro h
    rw [ddL_succ l i (by omega)]
    have := (ddStep_len (ddL (l.take i)) (l.getD i (0, []))).2
    have := ih (by omega)
    omega
theorem ddL_sub (l : List (Nat × List Int)) : ∀ i, i ≤ l.length → ∀ p ∈ ddL (l.take i), p ∈ l := by
  intro i
  induction i with
  | zero => intro _ p hp; simp [ddL] at hp
  | succ i ih =>
    intro h p hp
    rw [ddL_succ l i (by omega)] at hp
    unfold ddStep at hp
    split at hp
    · exact ih (by omega) p hp
    · rw [List.mem_append] at hp
      rcases hp with hp | hp
      · exact ih (by omega) p hp
      · rw [List.mem_singleton] at hp; rw [hp]; exact getD_mem _ _ _ (by omega)
/-- The values of the records are those that came in. -/
theorem ddL_vals (l : List (Nat × List Int)) : ∀ i, i ≤ l.length → ∀ x, x ∈ (ddL (l.take i)).map (fun p => pad5 p.2) ↔ x ∈ (l.take i).map (fun p => pad5 p.2) := by
  intro i
  induction i with
  | zero => intro _ x; simp [ddL]
  | succ i ih =>
    intro h x
    rw [ddL_succ l i (by omega), take_succ_getD l (0, []) i (by omega), List.map_append, List.mem_append, ← ih (by omega) x]
    unfold ddStep
    split
    · next hh =>
      constructor
      · exact .inl
      · rintro (hx | hx)
        · exact hx
        · simp only [List.map_cons, List.map_nil, List.mem_singleton] at hx
          rw [hx, ← hh.2]
          exact List.mem_map.2 ⟨_, getD_mem _ _ _ (by have := List.length_pos_iff.2 hh.1; omega), rfl⟩
    · rw [List.map_append, List.mem_append]
/-- Of records in order those that are left ascend. -/
theorem ddL_asc (l : List (Nat × List Int)) (ho : Ordd l) : ∀ i, i ≤ l.length → ((ddL (l.take i)).Pairwise fun p q => lessR (pad5 p.2) (pad5 q.2) = true) := by
  intro i
  induction i with
  | zero => intro _; simp [ddL]
  | succ i ih =>
    intro h
    rw [ddL_succ l i (by omega)]
    have hi := ih (by omega)
    have hmem := ddL_vals l i (by omega)
    have hle : ∀ p ∈ ddL (l.take i), lessR (pad5 (l.getD i (0, [])).2) (pad5 p.2) = false := fun p hp => by
      have h1 := (hmem (pad5 p.2)).1 (List.mem_map.2 ⟨p, hp, rfl⟩)
      obtain ⟨q, hq, hqp⟩ := List.mem_map.1 h1
      rw [← hqp]
      obtain ⟨j, hj, rfl⟩ := List.mem_iff_getElem.1 hq
      rw [List.length_take] at hj
      rw [List.getElem_take]
      have := List.pairwise_iff_getElem.1 ho j i (by omega) (by omega) (by omega)
      rw [getD_get _ _ _ (by omega)]; exact this
    unfold ddStep
    split
    · exact hi
    · next hh =>
      rw [List.pairwise_append]
      refine ⟨hi, List.pairwise_singleton _ _, fun p hp q hq => ?_⟩
      rw [List.mem_singleton] at hq
      subst hq
      have h1 := hle p hp
      cases h2 : lessR (pad5 p.2) (pad5 (l.getD i (0, [])).2) with
      | true => rfl
      | false =>
        exfalso
        have he := lessR_total _ _ h2 h1
        apply hh
        have hne : ddL (l.take i) ≠ [] := List.ne_nil_of_mem hp
        refine ⟨hne, ?_⟩
        have hlen := List.length_pos_iff.2 hne
        obtain ⟨j, hj, rfl⟩ := List.mem_iff_getElem.1 hp
        by_cases hjl : j = (ddL (l.take i)).length - 1
        · subst hjl; rw [getD_get _ _ _ hj]; exact he
        · have h3 := List.pairwise_iff_getElem.1 hi j ((ddL (l.take i)).length - 1) hj (by omega) (by omega)
          have h4 := hle _ (List.getElem_mem (by omega : (ddL (l.take i)).length - 1 < (ddL (l.take i)).length))
          rw [he] at h3
          rw [h3] at h4; cases h4
end Go.Proofs.YtpkcffbfgocndaaGreatDoor
