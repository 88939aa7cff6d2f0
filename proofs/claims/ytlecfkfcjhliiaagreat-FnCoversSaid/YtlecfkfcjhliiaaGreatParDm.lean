/- The model's classes and PartitionOf, by contract. Conditions: as stated. -/
import Derived.Test.YtlecfkfcjhliiaaGreatWc19
namespace Go.Proofs.YtlecfkfcjhliiaaGreat
open Go.RowKit

theorem ints_cell {l : List Int} {j : Nat} {u : Value} (h : (intsV l)[j]? = some u) : ∃ hj : j < l.length, u = .int .i64 l[j] := by
  unfold intsV at h
  rw [List.getElem?_map] at h
  cases hq : l[j]? with
  | none => rw [hq] at h; cases h
  | some x =>
    obtain ⟨hj, hx⟩ := List.getElem?_eq_some_iff.mp hq
    rw [hq] at h
    exact ⟨hj, by rw [hx]; simpa using h.symm⟩
theorem ints_one (l : List Int) : ∀ u ∈ intsV l, u.oneCell' = true := by
  intro u hu
  unfold intsV at hu
  obtain ⟨x, -, rfl⟩ := List.mem_map.mp hu
  rfl
theorem ownI_one (w : World) (x : Int) : OwnI (w.alloc (.cells #[.int .i64 x] 3)) w.heap.size (.slice (some ⟨w.heap.size, 0, none⟩) 1 1) [x] :=
  ⟨rfl, .inr ⟨w.heap.size, 1, _, rfl, Nat.le_refl _, heap_alloc_new w _, Nat.le_refl _, by unfold maxLen; omega, rfl, rfl⟩⟩
theorem intsV_append (l l' : List Int) : intsV (l ++ l') = intsV l ++ intsV l' := by unfold intsV; rw [List.map_append]
theorem ownI_append {w : World} {B : Nat} {v : Value} {l l' : List Int} (h : w.ownsRow B 3 1 v (l.length + l'.length) (intsV l ++ intsV l')) : OwnI w B v (l ++ l') := by
  unfold OwnI; rw [intsV_append, List.length_append]; exact h
theorem own_cells {w : World} {B n cap : Nat} {x : Addr} {l : List Int} (h : OwnI w B (.slice (some x) n cap) l) (j : Nat) (u : Value) (hu : (intsV l)[j]? = some u) : w.cell? (x.add j) = some u := by
  obtain ⟨a, cap', hv, hc⟩ := h.read
  obtain ⟨hj, rfl⟩ := ints_cell hu
  obtain ⟨x', hx', hcell⟩ := hc j hj
  cases hv
  cases hx'
  exact hcell
theorem row_shape {w : World} {B : Nat} {E : TypeId} {v : Value} {n : Nat} {xs : List Value} (h : w.ownsRow B E 1 v n xs) : ∃ a c, v = .slice a n c := by
  rcases h.2 with ⟨rfl, rfl⟩ | ⟨g, cap, cur, rfl, -⟩
  · exact ⟨_, _, rfl⟩
  · exact ⟨_, _, rfl⟩
set_option maxHeartbeats 6400000 in
set_option maxRecDepth 20000 in
theorem classes5_any (c m s : Int) (v : Value) (ll : List (List Int)) (w : World) (hr : ReadSS w v ll) (hT : isT c ll = true) :
    Calls Tryz.prog 50 #[.agg #[.int .i64 c, v], .int .i64 m, .int .i64 s] w (RetSS (clSt c.toNat ll m s ll.length).1 w) := by
  obtain ⟨i0, hi, hz0, hz1, hz2⟩ := info_parts info3i
  have HI : Hid (_ ∧ _ ∧ _ ∧ _) := Lib.hid ⟨hi, hz0, hz1, hz2⟩
  clear hi hz0 hz1 hz2
  obtain ⟨j0, hj, hy0, hy1, hy2⟩ := info_parts infoSj
  have HJ : Hid (_ ∧ _ ∧ _ ∧ _) := Lib.hid ⟨hj, hy0, hy1, hy2⟩
  clear hj hy0 hy1 hy2
  obtain ⟨hc1, hc5, h40⟩ := isT_bd hT
  have HAG := Lib.hid (fun i k w' (hb : Below w.heap.size w w') (hi : i < ll.length) (hk : k < ll.length) => l4Agree_any c m i k v ll w' (hr.kept hb) hT hi hk)
  have HLEN := Lib.hid (fun i (hi : i ≤ ll.length) => show (clSt c.toNat ll m s i).1.length ≤ 40 ∧ (clSt c.toNat ll m s i).2.length ≤ 1600 from by
    have h := clSt_len c.toNat ll m s i hi
    have : ll.length * i ≤ 40 * 40 := Nat.mul_le_mul h40 (by omega)
    omega)
  have HCL := Lib.hid (fun i (hi : i < ll.length) => show (clsC c.toNat ll m s i).length ≤ 40 from by have := clsC_len c.toNat ll m s i hi; omega)
  have HRL := Lib.hid (fun i n => rowsC_len c.toNat ll m s i n)
  obtain ⟨a, cap, rfl, -⟩ := hr
  have hb1 := (Below.refl w.heap.size w).alloc (Nat.le_refl _) (.cells #[.int .i64 c, .slice a ll.length cap] 26)
  have HBX := Lib.hid (fun w' (hb : Below (w.alloc (.cells #[.int .i64 c, .slice a ll.length cap] 26)).heap.size (w.alloc (.cells #[.int .i64 c, .slice a ll.length cap] 26)) w') => And.intro (hb1.trans (hb.mono hb1.size)) (box2 hb))
  have hr1 := Below.refl (w.alloc (.cells #[.int .i64 c, .slice a ll.length cap] 26)).heap.size (w.alloc (.cells #[.int .i64 c, .slice a ll.length cap] 26))
  have hr3 := (hr1.alloc (Nat.le_refl _) (.cells #[] 29)).alloc (by simp) (.cells #[] 3)
  have ho1 : ((w.alloc (.cells #[.int .i64 c, .slice a ll.length cap] 26)).alloc (.cells #[] 29)).ownsRow (w.heap.size + 1) 29 1 (.slice (some ⟨w.heap.size + 1, 0, none⟩) 0 0) 0 [] := by
    have h := World.ownsRow_made (base := w.heap.size + 1) (e := 29) (size := 1) (w.alloc (.cells #[.int .i64 c, .slice a ll.length cap] 26)) #[] 0 (by simp) (by unfold maxLen; omega) rfl
    rwa [World.size_alloc] at h
  have hsd : OwnSD (((w.alloc (.cells #[.int .i64 c, .slice a ll.length cap] 26)).alloc (.cells #[] 29)).alloc (.cells #[] 3)) (w.heap.size + 1) (w.heap.size + 3) (.slice (some ⟨w.heap.size + 1, 0, none⟩) 0 0) [] (.slice (some ⟨w.heap.size + 2, 0, none⟩) 0 0) [] := by
    have h2 := World.ownsRow_made (base := w.heap.size + 1) (e := 3) (size := 1) ((w.alloc (.cells #[.int .i64 c, .slice a ll.length cap] 26)).alloc (.cells #[] 29)) #[] 0 (by simp) (by unfold maxLen; omega) rfl
    rw [World.size_alloc, World.size_alloc] at h2
    exact ⟨fun _ => .slice none 0 0, World.ownsRow.alloc ho1 _, fun g hg => by cases hg; show w.heap.size + 1 < w.heap.size + 3; omega, fun i hi => absurd hi (Nat.not_lt_zero _), fun i j _ hj => absurd hj (Nat.not_lt_zero _), OwnI.made h2, fun g hg => by cases hg; show w.heap.size + 2 < w.heap.size + 3; omega, fun i hi => absurd hi (Nat.not_lt_zero _)⟩
  clear ho1 hr1 hb1 hT
  go_enter Tryz.func50, Tryz.ntmps50
  go_wp2_with fail
  go_loopw [7, 8, 9] (fun ov dv iv wr => ∃ i : Nat, i ≤ ll.length ∧ iv = .int .i64 (i : Int) ∧ Hid (OwnSD wr (w.heap.size + 1) wr.heap.size ov (clSt c.toNat ll m s i).1 dv (clSt c.toNat ll m s i).2) ∧ Hid (Below (w.alloc (.cells #[.int .i64 c, .slice a ll.length cap] 26)).heap.size (w.alloc (.cells #[.int .i64 c, .slice a ll.length cap] 26)) wr)) (fun _ _ iv _ => ll.length - (intOf iv).toNat)
  case atStart => exact ⟨0, by omega, rfl, Lib.hid (by have := hsd; simpa [clSt] using this), Lib.hid hr3⟩
  case round =>
    clear hsd hr3
    obtain ⟨i, hi, rfl, hsd, hb⟩ := hrel
    obtain ⟨hbw, c0, c1⟩ := HBX.out _ hb.out
    by_cases hlt : i < ll.length
    · have z1 : (i : Int) < (ll.length : Int) := by omega
      have hi40 : (i : Int) ≤ 40 := by omega
      have HL := Lib.hid (HLEN.out i hi)
      have HLC := Lib.hid (HCL.out i hlt)
      have HSS : Hid (clSt c.toNat ll m s (i + 1) = if (i : Int) ∈ (clSt c.toNat ll m s i).2 then clSt c.toNat ll m s i else if 1 < (clsC c.toNat ll m s i).length then ((clSt c.toNat ll m s i).1 ++ [clsC c.toNat ll m s i], (clSt c.toNat ll m s i).2 ++ clsC c.toNat ll m s i) else clSt c.toNat ll m s i) := Lib.hid rfl
      have HCE : Hid (clsC c.toNat ll m s i = rowsC c.toNat ll m s i (ll.length - (i + 1))) := Lib.hid rfl
      obtain ⟨st, hst⟩ : ∃ st, st = clSt c.toNat ll m s i := ⟨_, rfl⟩
      rw [← hst] at HL HSS hsd
      obtain ⟨out, done⟩ := st
      simp only at HL HSS hsd
      have HH := Lib.hid (l2Has_any _ done (i : Int) wr hsd.out.done.read (by have := HL.out; omega))
      clear hst
      by_cases hmem : (i : Int) ∈ done
      · rw [decide_eq_true hmem] at HH
        have HE : Hid (clSt c.toNat ll m s (i + 1) = (out, done)) := Lib.hid (by rw [HSS.out, if_pos hmem])
        clear hmem
        go_wp2_with fail
        refine HH.out.mono ?_
        rintro e w' ⟨rfl, rfl⟩
        go_wp2_with fail
        go_roundw
        case rel => exact ⟨i + 1, by omega, by go_num, by rw [HE.out]; exact hsd, hb⟩
        case measure => simp [intOf]; omega
      · rw [decide_eq_false hmem] at HH
        have HE : Hid (clSt c.toNat ll m s (i + 1) = if 1 < (clsC c.toNat ll m s i).length then (out ++ [clsC c.toNat ll m s i], done ++ clsC c.toNat ll m s i) else (out, done)) := Lib.hid (by rw [HSS.out, if_neg hmem])
        clear hmem
        have HC0 := Lib.hid (ownI_one wr (i : Int))
        have HSD0 := Lib.hid (hsd.out.same (w' := wr.alloc (.cells #[.int .i64 (i : Int)] 3)) (fun g _ hg => Below.heap_alloc _ _ _ hg))
        have HB0 := Lib.hid (hb.out.alloc hb.out.size (.cells #[.int .i64 (i : Int)] 3))
        have HN0 : Hid (w.heap.size + 1 ≤ wr.heap.size) := Lib.hid (by have := hb.out.size; simpa using this)
        obtain ⟨wi, rfl⟩ : ∃ wi : World, wi = wr := ⟨_, rfl⟩
        obtain ⟨N, hN⟩ : ∃ N, N = wi.heap.size := ⟨_, rfl⟩
        have HN : Hid (N ≤ (wi.alloc (.cells #[.int .i64 (i : Int)] 3)).heap.size) := Lib.hid (by rw [hN]; simp)
        rw [← hN] at HC0 HSD0 HN0
        go_wp2_with fail
        refine HH.out.mono ?_
        rintro e w' ⟨rfl, rfl⟩
        go_wp2_with fail
        rw [← hN]
        clear hN hbw c0 c1
        go_loopw [10, 11] (fun cv kv wr => ∃ k : Nat, i + 1 ≤ k ∧ k ≤ ll.length ∧ kv = .int .i64 (k : Int) ∧ OwnI wr N cv (rowsC c.toNat ll m s i (k - (i + 1))) ∧ Hid (OwnSD wr (w.heap.size + 1) N _ out _ done) ∧ Hid (Below (w.alloc (.cells #[.int .i64 c, .slice a ll.length cap] 26)).heap.size (w.alloc (.cells #[.int .i64 c, .slice a ll.length cap] 26)) wr) ∧ N ≤ wr.heap.size) (fun _ kv _ => ll.length - (intOf kv).toNat)
        case atStart => exact ⟨i + 1, by omega, by omega, by go_num, by rw [Nat.sub_self]; exact HC0.out, HSD0, HB0, HN.out⟩
        case round =>
          obtain ⟨k, hk1, hk, rfl, hoc, hsd, hb, hN⟩ := hrel
          obtain ⟨hbw, c0, c1⟩ := HBX.out _ hb.out
          have HLk := Lib.hid (HRL.out i (k - (i + 1)))
          by_cases hlk : k < ll.length
          · have y1 : (k : Int) < (ll.length : Int) := by omega
            have hk40 : (k : Int) ≤ 40 := by omega
            have HQ := HAG.out i k wr hbw hlt hlk
            have HRS : Hid (rowsC c.toNat ll m s i (k + 1 - (i + 1)) = if agB c.toNat ll m s i k = true then rowsC c.toNat ll m s i (k - (i + 1)) ++ [(k : Int)] else rowsC c.toNat ll m s i (k - (i + 1))) := Lib.hid (by
              obtain ⟨n, rfl⟩ : ∃ n, k = i + 1 + n := ⟨k - (i + 1), by omega⟩
              rw [show i + 1 + n + 1 - (i + 1) = n + 1 by omega, show i + 1 + n - (i + 1) = n by omega]
              rfl)
            have HAB : Hid (agB c.toNat ll m s i k = (bits .and .i64 (agrTo m (ll.getD i []) (ll.getD k []) c.toNat) s == s)) := Lib.hid rfl
            obtain ⟨x, hx⟩ : ∃ x, x = agrTo m (ll.getD i []) (ll.getD k []) c.toNat := ⟨_, rfl⟩
            rw [← hx] at HQ HAB
            have HQ := Lib.hid HQ
            obtain ⟨rc, hrc⟩ : ∃ rc, rc = rowsC c.toNat ll m s i (k - (i + 1)) := ⟨_, rfl⟩
            rw [← hrc] at HRS HLk hoc
            clear hx hrc
            cases hag : (bits .and .i64 x s == s) with
            | true =>
              have HE2 : Hid (rowsC c.toNat ll m s i (k + 1 - (i + 1)) = rc ++ [(k : Int)]) := Lib.hid (by rw [HRS.out, HAB.out, hag]; rfl)
              go_wp2_with fail
              refine HQ.out.mono ?_
              rintro e w5 ⟨rfl, b5⟩
              have s5 := b5.size
              have hoc5 := Lib.hid (hoc.kept b5 (fun g hg => (OwnI.lt hoc g hg).2))
              have hsd5 := Lib.hid (hsd.out.same (w' := w5) (fun g _ hg => b5.block g (by omega)))
              have hb5 := Lib.hid (hb.out.trans (b5.mono hb.out.size))
              have hN5 : Hid (N ≤ w5.heap.size) := Lib.hid (by omega)
              clear b5 s5 hoc hsd hb hN c0 c1 hbw
              go_wp2_with (at_builtin; refine wpList_append_own _ rfl _ _ 29 rfl N 3 i0 (.int .i64 0) 1 8 Tryz.underlying29 HI.out.1 HI.out.2.1 HI.out.2.2.1 HI.out.2.2.2 rfl (by decide) _ _ _ rfl (World.ownsRow.alloc hoc5.out _) ⟨w5.heap.size, 0, none⟩ 1 1 [.int .i64 (k : Int)] rfl rfl (cell_one_new _ _ _) (one_i64 _) (by unfold maxLen; have := HLk.out; omega) (by have := HLk.out; omega) (by have := hN5.out; simp; omega) ?_; intro v' w6 hown' hgrow _; have hoc6 := OwnI.snoc hown'; have hsd6 := Lib.hid (hsd5.out.same (w' := w6) (fun g _ hg => (hgrow.block g (by have := hN5.out; simp; omega) (fun e => by have := (OwnI.lt hoc5.out g e.symm).1; omega)).trans (Below.heap_alloc _ _ _ (by have := hN5.out; omega)))); have hb6 := Lib.hid ((hb5.out.alloc hb5.out.size (.cells #[.int .i64 (k : Int)] 3)).grown hgrow (by have := hb5.out.size; simp at this; simp; omega) (fun g hg => by have := (OwnI.lt hoc5.out g hg).1; have := HN0.out; simp; omega)); have hN6 : N ≤ w6.heap.size := (by have h1 := hgrow.size; have h2 := hN5.out; simp at h1; omega); clear hown' hgrow)
              go_roundw
              case rel => exact ⟨k + 1, by omega, by omega, by go_num, by rw [HE2.out]; exact hoc6, hsd6, hb6, hN6⟩
              case measure => simp [intOf]; omega
            | false =>
              have HE2 : Hid (rowsC c.toNat ll m s i (k + 1 - (i + 1)) = rc) := Lib.hid (by rw [HRS.out, HAB.out, hag]; rfl)
              go_wp2_with fail
              refine HQ.out.mono ?_
              rintro e w5 ⟨rfl, b5⟩
              have s5 := b5.size
              have hoc5 := Lib.hid (hoc.kept b5 (fun g hg => (OwnI.lt hoc g hg).2))
              have hsd5 := Lib.hid (hsd.out.same (w' := w5) (fun g _ hg => b5.block g (by omega)))
              have hb5 := Lib.hid (hb.out.trans (b5.mono hb.out.size))
              have hN5 : N ≤ w5.heap.size := by omega
              clear b5 s5 hoc hsd hb hN c0 c1 hbw
              go_wp2_with fail
              go_roundw
              case rel => exact ⟨k + 1, by omega, by omega, by go_num, by rw [HE2.out]; exact hoc5.out, hsd5, hb5, hN5⟩
              case measure => simp [intOf]; omega
          · obtain rfl : k = ll.length := by omega
            rw [← HCE.out] at hoc
            obtain ⟨L, hL⟩ : ∃ L, L = clsC c.toNat ll m s i := ⟨_, rfl⟩
            rw [← hL] at hoc HLC HE
            clear hL HLk
            by_cases h1 : 1 < L.length
            · have HE2 : Hid (clSt c.toNat ll m s (i + 1) = (out ++ [L], done ++ L)) := Lib.hid (by rw [HE.out, if_pos h1])
              have h1i : (1 : Int) < (L.length : Int) := by omega
              obtain ⟨gc, cc, rfl, hgc1, hgc2⟩ : ∃ g cap', _ = Value.slice (some ⟨g, 0, none⟩) L.length cap' ∧ N ≤ g ∧ g < wr.heap.size := by
                rcases hoc.shape with ⟨-, h⟩ | ⟨g, cap', h, -, h3, h4⟩
                · rw [h] at h1; simp at h1
                · exact ⟨g, cap', h, h3, h4⟩
              have HNW := Lib.hid hN
              have hou : OwnI (wr.alloc (.cells #[.slice (some ⟨gc, 0, none⟩) L.length cc] 29)) (w.heap.size + 1) (.slice (some ⟨gc, 0, none⟩) L.length cc) L := OwnI.base (World.ownsRow.alloc hoc _) (by have := HN0.out; omega)
              have HOU := Lib.hid hou
              have hsdA := hsd.out.same (w' := wr.alloc (.cells #[.slice (some ⟨gc, 0, none⟩) L.length cc] 29)) (fun g _ hg => Below.heap_alloc _ _ _ (by omega))
              obtain ⟨V, o1, o2, o3, o4, o5, o6, o7⟩ := hsdA
              have O1 := Lib.hid o1
              have O3 := Lib.hid o3
              have O4 := Lib.hid o4
              have O5 := Lib.hid o5
              have O6 := Lib.hid o6
              have O7 := Lib.hid o7
              have HGC := Lib.hid (And.intro hgc1 hgc2)
              clear o1 o2 o3 o4 o5 o6 o7 hou hoc hsd hN hgc1 hgc2 hbw
              go_wp2_with (first
                | (at_builtin; refine wpList_append_own _ rfl _ _ 24 rfl (w.heap.size + 1) 29 j0 (.slice none 0 0) 1 24 Tryz.underlying24 HJ.out.1 HJ.out.2.1 HJ.out.2.2.1 HJ.out.2.2.2 rfl (by decide) _ _ _ rfl O1.out ⟨wr.heap.size, 0, none⟩ 1 1 [.slice (some ⟨gc, 0, none⟩) L.length cc] rfl rfl (cell_one_new _ _ _) (one_slice _ _ _) (by unfold maxLen; have := HL.out.1; omega) (by have := HL.out.1; omega) (by have := HN0.out; have := HNW.out; simp; omega) ?_; intro v8 w8 hown8 hgrow8 _; have hsd8 := Lib.hid (OwnSD.snoc O1.out O3.out O4.out O5.out O6.out O7.out HOU.out (fun g hg => by cases hg; have h2 := hgrow8.size; have h3 := HGC.out; simp at h2; exact ⟨h3.1, by show gc < w8.heap.size; omega⟩) hown8 hgrow8 (by have h2 := hgrow8.size; have := HNW.out; simp at h2; omega) (fun g hg => (World.ownsRow.lt hown8 g hg).2)); have hou8 := Lib.hid (HOU.out.keptBy hgrow8 (row_apart O1.out HOU.out)); have hb8 := Lib.hid ((hb.out.alloc hb.out.size (.cells #[.slice (some ⟨gc, 0, none⟩) L.length cc] 29)).grown hgrow8 (by have := hb.out.size; simp at this; simp; omega) (fun g hg => by have := (World.ownsRow.lt O1.out g hg).1; simp; omega)); have hB8 : Hid (w.heap.size + 1 ≤ w8.heap.size) := Lib.hid (by have h2 := hgrow8.size; have := HNW.out; have := HN0.out; simp at h2; omega); clear hown8 hgrow8)
                | (at_builtin; refine wpList_append_lies _ rfl _ _ 29 rfl (w.heap.size + 1) 3 i0 (.int .i64 0) 1 8 Tryz.underlying29 HI.out.1 HI.out.2.1 HI.out.2.2.1 HI.out.2.2.2 rfl (by decide) _ _ _ rfl hsd8.out.done ⟨gc, 0, none⟩ L.length cc (intsV L) rfl (by simp [intsV]) (fun j u hu => own_cells hou8.out j u hu) (ints_one L) (by omega) (by unfold maxLen; have := HL.out.2; have := HLC.out; omega) (by have := HL.out.2; have := HLC.out; omega) hB8.out w8.heap.size rfl ?_; intro g9 cap9 w9 hown9 hgrow9 hor9 _; have hsd9 := Lib.hid (OwnSD.grow hsd8.out (ownI_append hown9) hgrow9 (fun g hg => by cases hg; exact hor9)); have hb9 := Lib.hid (hb8.out.grown hgrow9 (by have := hB8.out; simp; omega) (fun g hg => by have := (OwnI.lt hsd8.out.done g hg).1; simp; omega)); clear hown9 hgrow9))
              go_roundw
              case rel => exact ⟨i + 1, by omega, by go_num, by rw [HE2.out]; exact hsd9, hb9⟩
              case measure => simp [intOf]; omega
            · have HE2 : Hid (clSt c.toNat ll m s (i + 1) = (out, done)) := Lib.hid (by rw [HE.out, if_neg h1])
              have h1i : ¬ (1 : Int) < (L.length : Int) := by omega
              obtain ⟨ac, cc, rfl⟩ := row_shape hoc
              have HSD := Lib.hid (hsd.out.base hN)
              go_wp2_with fail
              go_roundw
              case rel => exact ⟨i + 1, by omega, by go_num, by rw [HE2.out]; exact HSD, hb⟩
              case measure => simp [intOf]; omega
    · obtain rfl : i = ll.length := by omega
      go_wp2_with fail
      go_ret
      exact ⟨_, rfl, OwnSS.base hsd.out.ss (by omega) (Nat.le_refl _), hbw⟩
def prtS (c : Int) (ll : List (List Int)) (m s : Int) : List (List Int) := if fineT c ll m = true ∧ isA c s = true then (clSt c.toNat ll m s ll.length).1 else []
theorem own_nil (w : World) : OwnSS (w.alloc (.cells #[] 29)) w.heap.size (w.alloc (.cells #[] 29)).heap.size (.slice (some ⟨w.heap.size, 0, none⟩) 0 0) [] :=
  ⟨fun _ => .slice none 0 0, World.ownsRow_made w #[] 0 (Nat.le_refl _) (by unfold maxLen; omega) rfl, fun g hg => by cases hg; simp, fun i hi => absurd hi (Nat.not_lt_zero _), fun i j _ hj => absurd hj (Nat.not_lt_zero _)⟩
end Go.Proofs.YtlecfkfcjhliiaaGreat
