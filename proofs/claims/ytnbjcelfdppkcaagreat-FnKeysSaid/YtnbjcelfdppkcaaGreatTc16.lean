/- Texts of this claim, merged: ParD, ParE, RowsOpen. Conditions: as stated. -/
import Derived.Test.YtnbjcelfdppkcaaGreatTc15
import Derived.Test.YtnbjcelfdppkcaaGreatTc3
import Derived.Deep.Matrix
namespace Go.Proofs.YtnbjcelfdppkcaaGreat
open Go.RowKit

theorem ints_cell {l : List Int} {j : Nat} {u : Value} (h : (intsV l)[j]? = some u) : ∃ hj : j < l.length, u = .int .i64 l[j] := by
  unfold intsV at h
  rw [List.getElem?_map] at h
  cases hq : l[j]? with
  | none => rw [hq] at h; cases h
  | some x =>
    obtain ⟨hj, hx⟩ := List.getElem?_eq_some_iff.mp hq
    rw [hq] at h
    exact ⟨hj, by rw [hx]; simpa using h.symm⟩
theorem ints_one (l : List Int) : ∀ u ∈ intsV l, u.oneCell' = true := by
  intro u hu
  unfold intsV at hu
  obtain ⟨x, -, rfl⟩ := List.mem_map.mp hu
  rfl
theorem ownI_one (w : World) (x : Int) : OwnI (w.alloc (.cells #[.int .i64 x] 3)) w.heap.size (.slice (some ⟨w.heap.size, 0, none⟩) 1 1) [x] :=
  ⟨rfl, .inr ⟨w.heap.size, 1, _, rfl, Nat.le_refl _, heap_alloc_new w _, Nat.le_refl _, by unfold maxLen; omega, rfl, rfl⟩⟩
theorem intsV_append (l l' : List Int) : intsV (l ++ l') = intsV l ++ intsV l' := by unfold intsV; rw [List.map_append]
theorem ownI_append {w : World} {B : Nat} {v : Value} {l l' : List Int} (h : w.ownsRow B 3 1 v (l.length + l'.length) (intsV l ++ intsV l')) : OwnI w B v (l ++ l') := by
  unfold OwnI; rw [intsV_append, List.length_append]; exact h
theorem own_cells {w : World} {B n cap : Nat} {x : Addr} {l : List Int} (h : OwnI w B (.slice (some x) n cap) l) (j : Nat) (u : Value) (hu : (intsV l)[j]? = some u) : w.cell? (x.add j) = some u := by
  obtain ⟨a, cap', hv, hc⟩ := h.read
  obtain ⟨hj, rfl⟩ := ints_cell hu
  obtain ⟨x', hx', hcell⟩ := hc j hj
  cases hv
  cases hx'
  exact hcell
theorem row_shape {w : World} {B : Nat} {E : TypeId} {v : Value} {n : Nat} {xs : List Value} (h : w.ownsRow B E 1 v n xs) : ∃ a c, v = .slice a n c := by
  rcases h.2 with ⟨rfl, rfl⟩ | ⟨g, cap, cur, rfl, -⟩
  · exact ⟨_, _, rfl⟩
  · exact ⟨_, _, rfl⟩
set_option maxHeartbeats 6400000 in
set_option maxRecDepth 20000 in
theorem classes5_any (c m s : Int) (v : Value) (ll : List (List Int)) (w : World) (hr : ReadSS w v ll) (hT : isT c ll = true) :
    Calls Tryz.prog 35 #[.agg #[.int .i64 c, v], .int .i64 m, .int .i64 s] w (RetSS (clSt c.toNat ll m s ll.length).1 w) := by
  obtain ⟨i0, hi, hz0, hz1, hz2⟩ := info_parts info3i
  have HI : Hid (_ ∧ _ ∧ _ ∧ _) := Lib.hid ⟨hi, hz0, hz1, hz2⟩
  clear hi hz0 hz1 hz2
  obtain ⟨j0, hj, hy0, hy1, hy2⟩ := info_parts infoSj
  have HJ : Hid (_ ∧ _ ∧ _ ∧ _) := Lib.hid ⟨hj, hy0, hy1, hy2⟩
  clear hj hy0 hy1 hy2
  obtain ⟨hc1, hc5, h40⟩ := isT_bd hT
  have HAG := Lib.hid (fun i k w' (hb : Below w.heap.size w w') (hi : i < ll.length) (hk : k < ll.length) => l4Agree_any c m i k v ll w' (hr.kept hb) hT hi hk)
  have HLEN := Lib.hid (fun i (hi : i ≤ ll.length) => show (clSt c.toNat ll m s i).1.length ≤ 40 ∧ (clSt c.toNat ll m s i).2.length ≤ 1600 from by
    have h := clSt_len c.toNat ll m s i hi
    have : ll.length * i ≤ 40 * 40 := Nat.mul_le_mul h40 (by omega)
    omega)
  have HCL := Lib.hid (fun i (hi : i < ll.length) => show (clsC c.toNat ll m s i).length ≤ 40 from by have := clsC_len c.toNat ll m s i hi; omega)
  have HRL := Lib.hid (fun i n => rowsC_len c.toNat ll m s i n)
  obtain ⟨a, cap, rfl, -⟩ := hr
  have hb1 := (Below.refl w.heap.size w).alloc (Nat.le_refl _) (.cells #[.int .i64 c, .slice a ll.length cap] 26)
  have HBX := Lib.hid (fun w' (hb : Below (w.alloc (.cells #[.int .i64 c, .slice a ll.length cap] 26)).heap.size (w.alloc (.cells #[.int .i64 c, .slice a ll.length cap] 26)) w') => And.intro (hb1.trans (hb.mono hb1.size)) (box2 hb))
  have hr1 := Below.refl (w.alloc (.cells #[.int .i64 c, .slice a ll.length cap] 26)).heap.size (w.alloc (.cells #[.int .i64 c, .slice a ll.length cap] 26))
  have hr3 := (hr1.alloc (Nat.le_refl _) (.cells #[] 29)).alloc (by simp) (.cells #[] 3)
  have ho1 : ((w.alloc (.cells #[.int .i64 c, .slice a ll.length cap] 26)).alloc (.cells #[] 29)).ownsRow (w.heap.size + 1) 29 1 (.slice (some ⟨w.heap.size + 1, 0, none⟩) 0 0) 0 [] := by
    have h := World.ownsRow_made (base := w.heap.size + 1) (e := 29) (size := 1) (w.alloc (.cells #[.int .i64 c, .slice a ll.length cap] 26)) #[] 0 (by simp) (by unfold maxLen; omega) rfl
    rwa [World.size_alloc] at h
  have hsd : OwnSD (((w.alloc (.cells #[.int .i64 c, .slice a ll.length cap] 26)).alloc (.cells #[] 29)).alloc (.cells #[] 3)) (w.heap.size + 1) (w.heap.size + 3) (.slice (some ⟨w.heap.size + 1, 0, none⟩) 0 0) [] (.slice (some ⟨w.heap.size + 2, 0, none⟩) 0 0) [] := by
    have h2 := World.ownsRow_made (base := w.heap.size + 1) (e := 3) (size := 1) ((w.alloc (.cells #[.int .i64 c, .slice a ll.length cap] 26)).alloc (.cells #[] 29)) #[] 0 (by simp) (by unfold maxLen; omega) rfl
    rw [World.size_alloc, World.size_alloc] at h2
    exact ⟨fun _ => .slice none 0 0, World.ownsRow.alloc ho1 _, fun g hg => by cases hg; show w.heap.size + 1 < w.heap.size + 3; omega, fun i hi => absurd hi (Nat.not_lt_zero _), fun i j _ hj => absurd hj (Nat.not_lt_zero _), OwnI.made h2, fun g hg => by cases hg; show w.heap.size + 2 < w.heap.size + 3; omega, fun i hi => absurd hi (Nat.not_lt_zero _)⟩
  clear ho1 hr1 hb1 hT
  go_enter Tryz.func35, Tryz.ntmps35
  go_wp2_with fail
  go_loopw [7, 8, 9] (fun ov dv iv wr => ∃ i : Nat, i ≤ ll.length ∧ iv = .int .i64 (i : Int) ∧ Hid (OwnSD wr (w.heap.size + 1) wr.heap.size ov (clSt c.toNat ll m s i).1 dv (clSt c.toNat ll m s i).2) ∧ Hid (Below (w.alloc (.cells #[.int .i64 c, .slice a ll.length cap] 26)).heap.size (w.alloc (.cells #[.int .i64 c, .slice a ll.length cap] 26)) wr)) (fun _ _ iv _ => ll.length - (intOf iv).toNat)
  case atStart => exact ⟨0, by omega, rfl, Lib.hid (by have := hsd; simpa [clSt] using this), Lib.hid hr3⟩
  case round =>
    clear hsd hr3
    obtain ⟨i, hi, rfl, hsd, hb⟩ := hrel
    obtain ⟨hbw, c0, c1⟩ := HBX.out _ hb.out
    by_cases hlt : i < ll.length
    · have z1 : (i : Int) < (ll.length : Int) := by omega
      have hi40 : (i : Int) ≤ 40 := by omega
      have HL := Lib.hid (HLEN.out i hi)
      have HLC := Lib.hid (HCL.out i hlt)
      have HSS : Hid (clSt c.toNat ll m s (i + 1) = if (i : Int) ∈ (clSt c.toNat ll m s i).2 then clSt c.toNat ll m s i else if 1 < (clsC c.toNat ll m s i).length then ((clSt c.toNat ll m s i).1 ++ [clsC c.toNat ll m s i], (clSt c.toNat ll m s i).2 ++ clsC c.toNat ll m s i) else clSt c.toNat ll m s i) := Lib.hid rfl
      have HCE : Hid (clsC c.toNat ll m s i = rowsC c.toNat ll m s i (ll.length - (i + 1))) := Lib.hid rfl
      obtain ⟨st, hst⟩ : ∃ st, st = clSt c.toNat ll m s i := ⟨_, rfl⟩
      rw [← hst] at HL HSS hsd
      obtain ⟨out, done⟩ := st
      simp only at HL HSS hsd
      have HH := Lib.hid (l2Has_any _ done (i : Int) wr hsd.out.done.read (by have := HL.out; omega))
      clear hst
      by_cases hmem : (i : Int) ∈ done
      · rw [decide_eq_true hmem] at HH
        have HE : Hid (clSt c.toNat ll m s (i + 1) = (out, done)) := Lib.hid (by rw [HSS.out, if_pos hmem])
        clear hmem
        go_wp2_with fail
        refine HH.out.mono ?_
        rintro e w' ⟨rfl, rfl⟩
        go_wp2_with fail
        go_roundw
        case rel => exact ⟨i + 1, by omega, by go_num, by rw [HE.out]; exact hsd, hb⟩
        case measure => simp [intOf]; omega
      · rw [decide_eq_false hmem] at HH
        have HE : Hid (clSt c.toNat ll m s (i + 1) = if 1 < (clsC c.toNat ll m s i).length then (out ++ [clsC c.toNat ll m s i], done ++ clsC c.toNat ll m s i) else (out, done)) := Lib.hid (by rw [HSS.out, if_neg hmem])
        clear hmem
        have HC0 := Lib.hid (ownI_one wr (i : Int))
        have HSD0 := Lib.hid (hsd.out.same (w' := wr.alloc (.cells #[.int .i64 (i : Int)] 3)) (fun g _ hg => Below.heap_alloc _ _ _ hg))
        have HB0 := Lib.hid (hb.out.alloc hb.out.size (.cells #[.int .i64 (i : Int)] 3))
        have HN0 : Hid (w.heap.size + 1 ≤ wr.heap.size) := Lib.hid (by have := hb.out.size; simpa using this)
        obtain ⟨wi, rfl⟩ : ∃ wi : World, wi = wr := ⟨_, rfl⟩
        obtain ⟨N, hN⟩ : ∃ N, N = wi.heap.size := ⟨_, rfl⟩
        have HN : Hid (N ≤ (wi.alloc (.cells #[.int .i64 (i : Int)] 3)).heap.size) := Lib.hid (by rw [hN]; simp)
        rw [← hN] at HC0 HSD0 HN0
        go_wp2_with fail
        refine HH.out.mono ?_
        rintro e w' ⟨rfl, rfl⟩
        go_wp2_with fail
        rw [← hN]
        clear hN hbw c0 c1
        go_loopw [10, 11] (fun cv kv wr => ∃ k : Nat, i + 1 ≤ k ∧ k ≤ ll.length ∧ kv = .int .i64 (k : Int) ∧ OwnI wr N cv (rowsC c.toNat ll m s i (k - (i + 1))) ∧ Hid (OwnSD wr (w.heap.size + 1) N _ out _ done) ∧ Hid (Below (w.alloc (.cells #[.int .i64 c, .slice a ll.length cap] 26)).heap.size (w.alloc (.cells #[.int .i64 c, .slice a ll.length cap] 26)) wr) ∧ N ≤ wr.heap.size) (fun _ kv _ => ll.length - (intOf kv).toNat)
        case atStart => exact ⟨i + 1, by omega, by omega, by go_num, by rw [Nat.sub_self]; exact HC0.out, HSD0, HB0, HN.out⟩
        case round =>
          obtain ⟨k, hk1, hk, rfl, hoc, hsd, hb, hN⟩ := hrel
          obtain ⟨hbw, c0, c1⟩ := HBX.out _ hb.out
          have HLk := Lib.hid (HRL.out i (k - (i + 1)))
          by_cases hlk : k < ll.length
          · have y1 : (k : Int) < (ll.length : Int) := by omega
            have hk40 : (k : Int) ≤ 40 := by omega
            have HQ := HAG.out i k wr hbw hlt hlk
            have HRS : Hid (rowsC c.toNat ll m s i (k + 1 - (i + 1)) = if agB c.toNat ll m s i k = true then rowsC c.toNat ll m s i (k - (i + 1)) ++ [(k : Int)] else rowsC c.toNat ll m s i (k - (i + 1))) := Lib.hid (by
              obtain ⟨n, rfl⟩ : ∃ n, k = i + 1 + n := ⟨k - (i + 1), by omega⟩
              rw [show i + 1 + n + 1 - (i + 1) = n + 1 by omega, show i + 1 + n - (i + 1) = n by omega]
              rfl)
            have HAB : Hid (agB c.toNat ll m s i k = (bits .and .i64 (agrTo m (ll.getD i []) (ll.getD k []) c.toNat) s == s)) := Lib.hid rfl
            obtain ⟨x, hx⟩ : ∃ x, x = agrTo m (ll.getD i []) (ll.getD k []) c.toNat := ⟨_, rfl⟩
            rw [← hx] at HQ HAB
            have HQ := Lib.hid HQ
            obtain ⟨rc, hrc⟩ : ∃ rc, rc = rowsC c.toNat ll m s i (k - (i + 1)) := ⟨_, rfl⟩
            rw [← hrc] at HRS HLk hoc
            clear hx hrc
            cases hag : (bits .and .i64 x s == s) with
            | true =>
              have HE2 : Hid (rowsC c.toNat ll m s i (k + 1 - (i + 1)) = rc ++ [(k : Int)]) := Lib.hid (by rw [HRS.out, HAB.out, hag]; rfl)
              go_wp2_with fail
              refine HQ.out.mono ?_
              rintro e w5 ⟨rfl, b5⟩
              have s5 := b5.size
              have hoc5 := Lib.hid (hoc.kept b5 (fun g hg => (OwnI.lt hoc g hg).2))
              have hsd5 := Lib.hid (hsd.out.same (w' := w5) (fun g _ hg => b5.block g (by omega)))
              have hb5 := Lib.hid (hb.out.trans (b5.mono hb.out.size))
              have hN5 : Hid (N ≤ w5.heap.size) := Lib.hid (by omega)
              clear b5 s5 hoc hsd hb hN c0 c1 hbw
              go_wp2_with (at_builtin; refine wpList_append_own _ rfl _ _ 29 rfl N 3 i0 (.int .i64 0) 1 8 Tryz.underlying29 HI.out.1 HI.out.2.1 HI.out.2.2.1 HI.out.2.2.2 rfl (by decide) _ _ _ rfl (World.ownsRow.alloc hoc5.out _) ⟨w5.heap.size, 0, none⟩ 1 1 [.int .i64 (k : Int)] rfl rfl (cell_one_new _ _ _) (one_i64 _) (by unfold maxLen; have := HLk.out; omega) (by have := HLk.out; omega) (by have := hN5.out; simp; omega) ?_; intro v' w6 hown' hgrow _; have hoc6 := OwnI.snoc hown'; have hsd6 := Lib.hid (hsd5.out.same (w' := w6) (fun g _ hg => (hgrow.block g (by have := hN5.out; simp; omega) (fun e => by have := (OwnI.lt hoc5.out g e.symm).1; omega)).trans (Below.heap_alloc _ _ _ (by have := hN5.out; omega)))); have hb6 := Lib.hid ((hb5.out.alloc hb5.out.size (.cells #[.int .i64 (k : Int)] 3)).grown hgrow (by have := hb5.out.size; simp at this; simp; omega) (fun g hg => by have := (OwnI.lt hoc5.out g hg).1; have := HN0.out; simp; omega)); have hN6 : N ≤ w6.heap.size := (by have h1 := hgrow.size; have h2 := hN5.out; simp at h1; omega); clear hown' hgrow)
              go_roundw
              case rel => exact ⟨k + 1, by omega, by omega, by go_num, by rw [HE2.out]; exact hoc6, hsd6, hb6, hN6⟩
              case measure => simp [intOf]; omega
            | false =>
              have HE2 : Hid (rowsC c.toNat ll m s i (k + 1 - (i + 1)) = rc) := Lib.hid (by rw [HRS.out, HAB.out, hag]; rfl)
              go_wp2_with fail
              refine HQ.out.mono ?_
              rintro e w5 ⟨rfl, b5⟩
              have s5 := b5.size
              have hoc5 := Lib.hid (hoc.kept b5 (fun g hg => (OwnI.lt hoc g hg).2))
              have hsd5 := Lib.hid (hsd.out.same (w' := w5) (fun g _ hg => b5.block g (by omega)))
              have hb5 := Lib.hid (hb.out.trans (b5.mono hb.out.size))
              have hN5 : N ≤ w5.heap.size := by omega
              clear b5 s5 hoc hsd hb hN c0 c1 hbw
              go_wp2_with fail
              go_roundw
              case rel => exact ⟨k + 1, by omega, by omega, by go_num, by rw [HE2.out]; exact hoc5.out, hsd5, hb5, hN5⟩
              case measure => simp [intOf]; omega
          · obtain rfl : k = ll.length := by omega
            rw [← HCE.out] at hoc
            obtain ⟨L, hL⟩ : ∃ L, L = clsC c.toNat ll m s i := ⟨_, rfl⟩
            rw [← hL] at hoc HLC HE
            clear hL HLk
            by_cases h1 : 1 < L.length
            · have HE2 : Hid (clSt c.toNat ll m s (i + 1) = (out ++ [L], done ++ L)) := Lib.hid (by rw [HE.out, if_pos h1])
              have h1i : (1 : Int) < (L.length : Int) := by omega
              obtain ⟨gc, cc, rfl, hgc1, hgc2⟩ : ∃ g cap', _ = Value.slice (some ⟨g, 0, none⟩) L.length cap' ∧ N ≤ g ∧ g < wr.heap.size := by
                rcases hoc.shape with ⟨-, h⟩ | ⟨g, cap', h, -, h3, h4⟩
                · rw [h] at h1; simp at h1
                · exact ⟨g, cap', h, h3, h4⟩
              have HNW := Lib.hid hN
              have hou : OwnI (wr.alloc (.cells #[.slice (some ⟨gc, 0, none⟩) L.length cc] 29)) (w.heap.size + 1) (.slice (some ⟨gc, 0, none⟩) L.length cc) L := OwnI.base (World.ownsRow.alloc hoc _) (by have := HN0.out; omega)
              have HOU := Lib.hid hou
              have hsdA := hsd.out.same (w' := wr.alloc (.cells #[.slice (some ⟨gc, 0, none⟩) L.length cc] 29)) (fun g _ hg => Below.heap_alloc _ _ _ (by omega))
              obtain ⟨V, o1, o2, o3, o4, o5, o6, o7⟩ := hsdA
              have O1 := Lib.hid o1
              have O3 := Lib.hid o3
              have O4 := Lib.hid o4
              have O5 := Lib.hid o5
              have O6 := Lib.hid o6
              have O7 := Lib.hid o7
              have HGC := Lib.hid (And.intro hgc1 hgc2)
              clear o1 o2 o3 o4 o5 o6 o7 hou hoc hsd hN hgc1 hgc2 hbw
              go_wp2_with (first
                | (at_builtin; refine wpList_append_own _ rfl _ _ 24 rfl (w.heap.size + 1) 29 j0 (.slice none 0 0) 1 24 Tryz.underlying24 HJ.out.1 HJ.out.2.1 HJ.out.2.2.1 HJ.out.2.2.2 rfl (by decide) _ _ _ rfl O1.out ⟨wr.heap.size, 0, none⟩ 1 1 [.slice (some ⟨gc, 0, none⟩) L.length cc] rfl rfl (cell_one_new _ _ _) (one_slice _ _ _) (by unfold maxLen; have := HL.out.1; omega) (by have := HL.out.1; omega) (by have := HN0.out; have := HNW.out; simp; omega) ?_; intro v8 w8 hown8 hgrow8 _; have hsd8 := Lib.hid (OwnSD.snoc O1.out O3.out O4.out O5.out O6.out O7.out HOU.out (fun g hg => by cases hg; have h2 := hgrow8.size; have h3 := HGC.out; simp at h2; exact ⟨h3.1, by show gc < w8.heap.size; omega⟩) hown8 hgrow8 (by have h2 := hgrow8.size; have := HNW.out; simp at h2; omega) (fun g hg => (World.ownsRow.lt hown8 g hg).2)); have hou8 := Lib.hid (HOU.out.keptBy hgrow8 (row_apart O1.out HOU.out)); have hb8 := Lib.hid ((hb.out.alloc hb.out.size (.cells #[.slice (some ⟨gc, 0, none⟩) L.length cc] 29)).grown hgrow8 (by have := hb.out.size; simp at this; simp; omega) (fun g hg => by have := (World.ownsRow.lt O1.out g hg).1; simp; omega)); have hB8 : Hid (w.heap.size + 1 ≤ w8.heap.size) := Lib.hid (by have h2 := hgrow8.size; have := HNW.out; have := HN0.out; simp at h2; omega); clear hown8 hgrow8)
                | (at_builtin; refine wpList_append_lies _ rfl _ _ 29 rfl (w.heap.size + 1) 3 i0 (.int .i64 0) 1 8 Tryz.underlying29 HI.out.1 HI.out.2.1 HI.out.2.2.1 HI.out.2.2.2 rfl (by decide) _ _ _ rfl hsd8.out.done ⟨gc, 0, none⟩ L.length cc (intsV L) rfl (by simp [intsV]) (fun j u hu => own_cells hou8.out j u hu) (ints_one L) (by omega) (by unfold maxLen; have := HL.out.2; have := HLC.out; omega) (by have := HL.out.2; have := HLC.out; omega) hB8.out w8.heap.size rfl ?_; intro g9 cap9 w9 hown9 hgrow9 hor9 _; have hsd9 := Lib.hid (OwnSD.grow hsd8.out (ownI_append hown9) hgrow9 (fun g hg => by cases hg; exact hor9)); have hb9 := Lib.hid (hb8.out.grown hgrow9 (by have := hB8.out; simp; omega) (fun g hg => by have := (OwnI.lt hsd8.out.done g hg).1; simp; omega)); clear hown9 hgrow9))
              go_roundw
              case rel => exact ⟨i + 1, by omega, by go_num, by rw [HE2.out]; exact hsd9, hb9⟩
              case measure => simp [intOf]; omega
            · have HE2 : Hid (clSt c.toNat ll m s (i + 1) = (out, done)) := Lib.hid (by rw [HE.out, if_neg h1])
              have h1i : ¬ (1 : Int) < (L.length : Int) := by omega
              obtain ⟨ac, cc, rfl⟩ := row_shape hoc
              have HSD := Lib.hid (hsd.out.base hN)
              go_wp2_with fail
              go_roundw
              case rel => exact ⟨i + 1, by omega, by go_num, by rw [HE2.out]; exact HSD, hb⟩
              case measure => simp [intOf]; omega
    · obtain rfl : i = ll.length := by omega
      go_wp2_with fail
      go_ret
      exact ⟨_, rfl, OwnSS.base hsd.out.ss (by omega) (Nat.le_refl _), hbw⟩
def prtS (c : Int) (ll : List (List Int)) (m s : Int) : List (List Int) := if fineT c ll m = true ∧ isA c s = true then (clSt c.toNat ll m s ll.length).1 else []
theorem own_nil (w : World) : OwnSS (w.alloc (.cells #[] 29)) w.heap.size (w.alloc (.cells #[] 29)).heap.size (.slice (some ⟨w.heap.size, 0, none⟩) 0 0) [] :=
  ⟨fun _ => .slice none 0 0, World.ownsRow_made w #[] 0 (Nat.le_refl _) (by unfold maxLen; omega) rfl, fun g hg => by cases hg; simp, fun i hi => absurd hi (Nat.not_lt_zero _), fun i j _ hj => absurd hj (Nat.not_lt_zero _)⟩
end Go.Proofs.YtnbjcelfdppkcaaGreat
namespace Go.Proofs.YtnbjcelfdppkcaaGreat
open Go.RowKit

/-- The row beside has grown; the rows are still below C. -/
theorem OwnSD.growE {w w' : World} {B C : Nat} {v dv dv' : Value} {ll : List (List Int)} {dl : List Int} (h : OwnSD w B C v ll dv dl) (hC : C ≤ w.heap.size) (hg : w.grownBy w' dv.ownBlock) (hor : ∀ g, dv'.ownBlock = some g → dv.ownBlock = some g ∨ g = w.heap.size) :
    ∃ V : Nat → Value, w'.ownsRow B 29 1 v ll.length ((List.range ll.length).map V) ∧ (∀ i, i < ll.length → OwnI w' B (V i) (ll.getD i []) ∧ ∀ g, (V i).ownBlock = some g → g < C) ∧
      (∀ i j, i < j → j < ll.length → ∀ g, (V i).ownBlock = some g → (V j).ownBlock ≠ some g) ∧ (∀ i, i < ll.length → ∀ g, (V i).ownBlock = some g → dv'.ownBlock ≠ some g) := by
  obtain ⟨V, h1, h2, h3, h4, h5, h6, h7⟩ := h
  have hap : ∀ g, v.ownBlock = some g → dv.ownBlock ≠ some g := row_apart h1 h5
  refine ⟨V, ownsRow_same h1 fun g hgv => hg.block g (by have := h2 g hgv; omega) (fun e => hap g hgv e.symm), fun i hi => ⟨(h3 i hi).1.same fun g hgv => hg.block g (by have := (h3 i hi).2 g hgv; omega) (fun e => h7 i hi g hgv e.symm), (h3 i hi).2⟩, h4, fun i hi g hgv e => ?_⟩
  rcases hor g e with h | h
  · exact h7 i hi g hgv h
  · have := (h3 i hi).2 g hgv; omega
/-- One more row, which is neither below C nor the one beside. -/
theorem OwnSD.snoc2 {w w' : World} {B C C' : Nat} {v v' u dv : Value} {ll : List (List Int)} {l dl : List Int} {V : Nat → Value} (o1 : w.ownsRow B 29 1 v ll.length ((List.range ll.length).map V))
    (o3 : ∀ i, i < ll.length → OwnI w B (V i) (ll.getD i []) ∧ ∀ g, (V i).ownBlock = some g → g < C) (o4 : ∀ i j, i < j → j < ll.length → ∀ g, (V i).ownBlock = some g → (V j).ownBlock ≠ some g)
    (o5 : OwnI w B dv dl) (o6 : ∀ g, dv.ownBlock = some g → g < C') (o7 : ∀ i, i < ll.length → ∀ g, (V i).ownBlock = some g → dv.ownBlock ≠ some g)
    (hu : OwnI w B u l) (huC : ∀ g, u.ownBlock = some g → C ≤ g ∧ g < C') (hud : ∀ g, u.ownBlock = some g → dv.ownBlock ≠ some g)
    (h1 : w'.ownsRow B 29 1 v' (ll.length + 1) ((List.range ll.length).map V ++ [u])) (hg : w.grownBy w' v.ownBlock) (hC : C ≤ C') (hv' : ∀ g, v'.ownBlock = some g → g < C') : OwnSD w' B C' v' (ll ++ [l]) dv dl := by
  have hap : ∀ i, i < ll.length → ∀ g, v.ownBlock = some g → (V i).ownBlock ≠ some g := fun i hi => row_apart o1 (o3 i hi).1
  have hapu : ∀ g, v.ownBlock = some g → u.ownBlock ≠ some g := row_apart o1 hu
  have hapd : ∀ g, v.ownBlock = some g → dv.ownBlock ≠ some g := row_apart o1 o5
  refine ⟨fun i => if i < ll.length then V i else u, ?_, hv', fun i hi => ?_, fun i j hij hj g => ?_, o5.keptBy hg hapd, o6, fun i hi g => ?_⟩
  · have e : (List.range (ll ++ [l]).length).map (fun i => if i < ll.length then V i else u) = (List.range ll.length).map V ++ [u] := by
      rw [List.length_append, List.length_singleton, List.range_succ, List.map_append]
      congr 1
      · apply List.map_congr_left; intro i hi; rw [List.mem_range] at hi; simp [hi]
      · simp
    rw [e, List.length_append]; exact h1
  · rw [List.length_append, List.length_singleton] at hi
    rw [getD_snoc _ _ _ _ hi]
    by_cases hlt : i < ll.length
    · simp only [hlt, if_true]
      exact ⟨(o3 i hlt).1.keptBy hg (fun g hg => hap i hlt g hg), fun g hgg => Nat.lt_of_lt_of_le ((o3 i hlt).2 g hgg) hC⟩
    · simp only [hlt, if_false]
      exact ⟨hu.keptBy hg hapu, fun g hgg => (huC g hgg).2⟩
  · rw [List.length_append, List.length_singleton] at hj
    have hi : i < ll.length := by omega
    simp only [hi, if_true]
    by_cases hlt : j < ll.length
    · simp only [hlt, if_true]; exact o4 i j hij hlt g
    · simp only [hlt, if_false]
      intro a b
      have := (o3 i hi).2 g a
      have := (huC g b).1
      omega
  · by_cases hlt : i < ll.length
    · simp only [hlt, if_true]; exact o7 i hlt g
    · simp only [hlt, if_false]
      exact hud g
theorem OwnSD.doneLt {w : World} {B C : Nat} {v dv : Value} {ll : List (List Int)} {dl : List Int} (h : OwnSD w B C v ll dv dl) : ∀ g, dv.ownBlock = some g → g < C := by
  obtain ⟨V, -, -, -, -, -, h6, -⟩ := h
  exact h6
theorem clsI_mem : ∀ (ll : List (List Int)) (x : Int), 0 ≤ clsI ll x → x ∈ ll.getD (clsI ll x).toNat []
  | [], _, h => by simp [clsI] at h
  | r :: t, x, h => by
    unfold clsI at h ⊢
    by_cases hr : x ∈ r
    · rw [if_pos hr]; exact hr
    · rw [if_neg hr] at h ⊢
      by_cases h2 : clsI t x < 0
      · rw [if_pos h2] at h; omega
      · rw [if_neg h2] at h ⊢
        have ih := clsI_mem t x (by omega)
        rw [show (clsI t x + 1).toNat = (clsI t x).toNat + 1 by omega]
        simpa using ih
/-- Those of the first k rows of class a of p that are in class b of q. -/
def prTo (p q : List (List Int)) (a b : Nat) (k : Nat) : List Int := ((p.getD a []).take k).filter fun x => decide (x ∈ q.getD b [])
def prC (p q : List (List Int)) (a b : Nat) : List Int := (p.getD a []).filter fun x => decide (x ∈ q.getD b [])
theorem prTo_succ (p q : List (List Int)) (a b k : Nat) (h : k < (p.getD a []).length) : prTo p q a b (k + 1) = if (p.getD a []).getD k 0 ∈ q.getD b [] then prTo p q a b k ++ [(p.getD a []).getD k 0] else prTo p q a b k := by
  unfold prTo
  rw [take_succ_getD (p.getD a []) 0 k h, List.filter_append]
  by_cases hm : (p.getD a []).getD k 0 ∈ q.getD b []
  · rw [if_pos hm, List.filter_cons, if_pos (decide_eq_true hm), List.filter_nil]
  · rw [if_neg hm, List.filter_cons, if_neg (by rw [decide_eq_true_eq]; exact hm), List.filter_nil, List.append_nil]
theorem prTo_all (p q : List (List Int)) (a b : Nat) : prTo p q a b (p.getD a []).length = prC p q a b := by unfold prTo prC; rw [List.take_length]
theorem prTo_len (p q : List (List Int)) (a b k : Nat) : (prTo p q a b k).length ≤ (p.getD a []).length := by
  unfold prTo
  have h1 := List.length_filter_le (fun x => decide (x ∈ q.getD b [])) ((p.getD a []).take k)
  rw [List.length_take] at h1; omega
/-- The classes and the rows that are done, after i rows. -/
def prSt (p q : List (List Int)) : Nat → List (List Int) × List Int
  | 0 => ([], [])
  | i + 1 => if clsI p i < 0 ∨ clsI q i < 0 ∨ (i : Int) ∈ (prSt p q i).2 then prSt p q i
    else (if 1 < (prC p q (clsI p i).toNat (clsI q i).toNat).length then (prSt p q i).1 ++ [prC p q (clsI p i).toNat (clsI q i).toNat] else (prSt p q i).1, (prSt p q i).2 ++ prC p q (clsI p i).toNat (clsI q i).toNat)
def proS (p q : List (List Int)) (rows : Int) : List (List Int) := if (partP p rows && partP q rows) = true then (prSt p q rows.toNat).1 else []
theorem prC_len (p q : List (List Int)) (i : Nat) (htot : tot p ≤ 1048576) (h : 0 ≤ clsI p i) : (prC p q (clsI p i).toNat (clsI q i).toNat).length ≤ 1048576 := by
  have h1 := prTo_len p q (clsI p i).toNat (clsI q i).toNat (p.getD (clsI p i).toNat []).length
  rw [prTo_all] at h1
  have h2 := clsI_ge p (i : Int)
  have h3 := tot_get (ll := p) (k := (clsI p i).toNat) (by omega)
  omega
theorem prSt_len (p q : List (List Int)) (htot : tot p ≤ 1048576) : ∀ i, (prSt p q i).1.length ≤ i ∧ (prSt p q i).2.length ≤ 1048576 * i
  | 0 => by simp [prSt]
  | i + 1 => by
    have ih := prSt_len p q htot i
    unfold prSt
    split
    · omega
    · rename_i h
      have h1 := prC_len p q i htot (by omega)
      simp only [List.length_append]
      refine ⟨?_, by omega⟩
      split
      · simp; omega
      · omega
theorem partP_rows {p : List (List Int)} {rows : Int} (h : partP p rows = true) : 0 ≤ rows ∧ rows ≤ 40 := by
  unfold partP at h
  simp only [Bool.and_eq_true, decide_eq_true_eq] at h
  exact h.2
end Go.Proofs.YtnbjcelfdppkcaaGreat
namespace Go.Proofs.YtnbjcelfdppkcaaGreat
open Go.ChangeShapes Go.WideShapes Go.RowKit Go.Deep

/-- All rows are integers. -/
def I64ss (p : List (List Int)) : Prop := ∀ i, i < p.length → ∀ x ∈ p.getD i [], -9223372036854775808 ≤ x ∧ x ≤ 9223372036854775807
section
variable {H : Type} {enc : TypeId × Value → H} {w : World} {base : Nat} {held : Bool}
theorem open_rows2 {fuel : Nat} {v : Value} {x : DataW H × List MemPlace} (h : DataW.trod enc Tryz.prog w base (fun _ => true) held fuel 24 [v] = some x) : ∃ ll, ReadSS w v ll ∧ Short ll ∧ I64ss ll := by
  rcases open_int_rows Tryz.underlying24 Tryz.underlying29 Tryz.underlying3 (by kernel_rfl) (by kernel_rfl) h with ⟨hcs, -⟩ | ⟨a, len, cap, A, L, C, Z, hcs, -, hl, hm, -, hr⟩
  · simp at hcs
    subst hcs
    exact ⟨[], ReadSS.nil _, ⟨Nat.zero_le _, fun i hi => absurd hi (Nat.not_lt_zero _)⟩, fun i hi => absurd hi (Nat.not_lt_zero _)⟩
  · simp at hcs
    subst hcs
    have hlen : ((List.range len).map fun r => (Z r).take (L r)).length = len := by simp
    have hget : ∀ i, i < len → ((List.range len).map fun r => (Z r).take (L r)).getD i [] = (Z i).take (L i) := fun i hi => by
      rw [List.getD_eq_getElem?_getD, List.getElem?_eq_getElem (by rw [hlen]; exact hi)]; simp
    have hrl : ∀ i, i < len → ((Z i).take (L i)).length = L i := fun i hi => by
      obtain ⟨-, h1, -, h2, -⟩ := hr i (by omega)
      rw [List.length_take]; omega
    refine ⟨(List.range len).map fun r => (Z r).take (L r), ⟨some a, cap, by rw [hlen], fun i hi => ?_⟩, ⟨by rw [hlen]; unfold maxLen at hm; omega, fun i hi => ?_⟩, fun i hi x hx => ?_⟩
    · rw [hlen] at hi
      obtain ⟨h0, h1, h2, h3, h4, h5, h6⟩ := hr i (by omega)
      rw [hget i hi]
      refine ⟨a, _, rfl, h0, A i, C i, by rw [hrl i hi], fun j hj => ?_⟩
      rw [hrl i hi] at hj
      cases hA : A i with
      | none => have := h5 hA; omega
      | some a' =>
        refine ⟨a', rfl, ?_⟩
        rw [(h6 a' hA).2 j (by omega)]
        simp only [List.getElem_take]
        rw [List.getD_eq_getElem?_getD, List.getElem?_eq_getElem (by omega)]
        rfl
    · rw [hlen] at hi
      rw [hget i hi, hrl i hi]
      obtain ⟨-, h1, h2, -⟩ := hr i (by omega)
      unfold maxLen at h2; omega
    · rw [hlen] at hi
      rw [hget i hi] at hx
      obtain ⟨-, -, -, -, h4, -⟩ := hr i (by omega)
      have := h4 x (List.mem_of_mem_take hx)
      exact ⟨wf_i64_ge this, wf_i64_le this⟩
end
end Go.Proofs.YtnbjcelfdppkcaaGreat
