/- Texts of this claim, merged: CovE, DepG, DepH, OwnDs. Conditions: as stated. -/
import Derived.Test.YtlecfkfcjhliiaaGreatWc27
import Derived.Test.YtlecfkfcjhliiaaGreatWc13
import Derived.Test.YtlecfkfcjhliiaaGreatWc23
import Derived.Test.YtlecfkfcjhliiaaGreatWc3
import Derived.Deep.RegionHeld3
namespace Go.Proofs.YtlecfkfcjhliiaaGreat
open Go.RowKit

theorem filter_next {α : Type} (p : α → Bool) (l : List α) (d : α) (k : Nat) (h : k < l.length) : (l.take (k + 1)).filter p = if p (l.getD k d) = true then (l.take k).filter p ++ [l.getD k d] else (l.take k).filter p := by
  rw [take_succ_getD l d k h, List.filter_append]
  by_cases hp : p (l.getD k d) = true
  · rw [if_pos hp, List.filter_cons_of_pos hp]; rfl
  · rw [if_neg hp, List.filter_cons_of_neg hp]
    simp
theorem mdIn_filter (f : Int → Nat → Bool) (ps : List Int) (r : Nat) (l0 : List (Int × Int)) : ∀ n, n ≤ ps.length → mdIn f ps r l0 n = l0 ++ ((ps.take n).filter (fun S => f S r)).map (fun S => (S, (r : Int)))
  | 0, _ => by simp [mdIn]
  | n + 1, h => by
    have ih := mdIn_filter f ps r l0 n (by omega)
    have e := filter_next (fun S => f S r) ps 0 n h
    unfold mdIn
    by_cases hf : f (ps.getD n 0) r = true
    · rw [if_pos hf] at e
      rw [if_pos hf, e, ih, List.map_append, ← List.append_assoc]; rfl
    · rw [if_neg hf] at e
      rw [if_neg hf, e, ih]
theorem mdOut_succ (f : Int → Nat → Bool) (ps : List Int) (r : Nat) : mdOut f ps (r + 1) = mdOut f ps r ++ (ps.filter (fun S => f S r)).map (fun S => (S, (r : Int))) := by
  have h := mdIn_filter f ps r (mdOut f ps r) ps.length (Nat.le_refl _)
  rw [List.take_length] at h
  exact h
theorem mdOut_filter (f : Int → Nat → Bool) (q : Int × Int → Bool) (ps : List Int) : ∀ C, (mdOut f ps C).filter q = mdOut (fun S r => f S r && q (S, (r : Int))) ps C
  | 0 => rfl
  | C + 1 => by
    rw [mdOut_succ, mdOut_succ, List.filter_append, mdOut_filter f q ps C, List.filter_map, List.filter_filter]
    congr 2
    exact List.filter_congr fun S _ => Bool.and_comm _ _
/-- e says no more than d. -/
def covB (e d : Int × Int) : Bool := decide (e.2 = d.2) && partZ e.1 d.1
/-- Whether a different one of the list covers d. -/
def unB (l : List (Int × Int)) (d : Int × Int) : Bool := l.any fun e => !decide (e = d) && covB e d
def uncL (l : List (Int × Int)) : List (Int × Int) := l.filter fun d => !unB l d
def candL (C : Nat) : List (Int × Int) := mdOut (fun S r => !bitB S.toNat r) (parts (C : Int)) C
theorem part_sub (a b : Nat) (ha : a < 32) (hb : b < 32) : partZ (a : Int) (b : Int) = subN a b := by
  have h : ∀ a b : Fin 32, partZ ((a.val : Nat) : Int) ((b.val : Nat) : Int) = subN a.val b.val := by decide +kernel
  exact h ⟨a, ha⟩ ⟨b, hb⟩
/-- The dependencies of a filtered list of candidates that no other one covers. -/
theorem unc_low {C : Nat} (hC : C ≤ 5) (g : Int × Int → Bool) :
    uncL ((candL C).filter g) = mdOut (fun S r => decide (S ∈ minS (fltTo (fun S => !bitB S.toNat r && g (S, (r : Int))) (parts (C : Int)) (parts (C : Int)).length))) (parts (C : Int)) C := by
  have h32 := two5 hC
  have hl : (candL C).filter g = mdOut (fun S r => !bitB S.toNat r && g (S, (r : Int))) (parts (C : Int)) C := mdOut_filter _ _ _ _
  have key : ∀ l, l = mdOut (fun S r => !bitB S.toNat r && g (S, (r : Int))) (parts (C : Int)) C →
      (mdOut (fun S r => !bitB S.toNat r && g (S, (r : Int))) (parts (C : Int)) C).filter (fun d => !unB l d) =
      mdOut (fun S r => decide (S ∈ minS (fltTo (fun S => !bitB S.toNat r && g (S, (r : Int))) (parts (C : Int)) (parts (C : Int)).length))) (parts (C : Int)) C := by
    intro l hll
    rw [mdOut_filter]
    refine mdOut_same _ fun S hS r hr => ?_
    obtain ⟨x, hx, rfl⟩ := (parts_mem hC S).1 hS
    obtain ⟨k1, k2⟩ := flt_small hC (fun S => !bitB S.toNat r && g (S, (r : Int)))
    have hmem : ∀ z : Nat, ((z : Int) ∈ fltTo (fun S => !bitB S.toNat r && g (S, (r : Int))) (parts (C : Int)) (parts (C : Int)).length ↔ z < 2 ^ C ∧ (!bitB z r && g ((z : Int), (r : Int))) = true) := by
      intro z
      rw [fltTo_mem]
      constructor
      · rintro ⟨t, t1, t2, t3⟩
        obtain ⟨z', z1, z2⟩ := (parts_mem hC _).1 (mem_getD.2 ⟨t, t1, t3⟩)
        obtain rfl : z = z' := by omega
        rw [← t3] at t2
        exact ⟨z1, t2⟩
      · rintro ⟨z1, z2⟩
        obtain ⟨t, t1, t2⟩ := mem_getD.1 ((parts_mem hC (z : Int)).2 ⟨z, z1, rfl⟩)
        exact ⟨t, t1, by rw [← t2]; exact z2, t2⟩
    have hml : ∀ z : Nat, z < 2 ^ C → (((z : Int), (r : Int)) ∈ l ↔ (!bitB z r && g ((z : Int), (r : Int))) = true) := by
      intro z hz
      rw [hll, mdOut_mem]
      constructor
      · rintro ⟨r', r1, S, r2, r3, r4⟩
        obtain ⟨e1, e2⟩ := Prod.mk.inj r4
        obtain rfl : r = r' := by omega
        subst e1
        exact r3
      · intro h
        exact ⟨r, hr, (z : Int), (parts_mem hC _).2 ⟨z, hz, rfl⟩, h, rfl⟩
    rw [Bool.eq_iff_iff, decide_eq_true_iff, minS_mem k1 k2 x, hmem x, Bool.and_eq_true, Bool.not_eq_true']
    show (_ ∧ _) ↔ _
    constructor
    · rintro ⟨h1, h2⟩
      refine ⟨⟨hx, h1⟩, fun z hz hs => Classical.byContradiction fun hne => ?_⟩
      obtain ⟨z1, z2⟩ := (hmem z).1 hz
      have : unB l ((x : Int), (r : Int)) = true := by
        unfold unB
        rw [List.any_eq_true]
        refine ⟨((z : Int), (r : Int)), (hml z z1).2 z2, ?_⟩
        rw [Bool.and_eq_true, Bool.not_eq_true']
        refine ⟨decide_eq_false fun e => hne (by have := (Prod.mk.inj e).1; omega), ?_⟩
        unfold covB
        simp only [decide_true, Bool.true_and]
        rw [part_sub z x (by omega) (by omega)]; exact hs
      rw [h2] at this
      cases this
    · rintro ⟨⟨-, h1⟩, h2⟩
      refine ⟨h1, Bool.eq_false_iff.2 fun h => ?_⟩
      unfold unB at h
      rw [List.any_eq_true] at h
      obtain ⟨e, he, h⟩ := h
      rw [Bool.and_eq_true, Bool.not_eq_true', decide_eq_false_iff_not] at h
      obtain ⟨hne, hc⟩ := h
      have he' := he
      rw [hll, mdOut_mem] at he'
      obtain ⟨r', r1, S, r2, r3, rfl⟩ := he'
      obtain ⟨z, hz, rfl⟩ := (parts_mem hC S).1 r2
      unfold covB at hc
      rw [Bool.and_eq_true, decide_eq_true_iff] at hc
      obtain ⟨e2, hp⟩ := hc
      simp only at e2 hp
      obtain rfl : r = r' := by omega
      rw [part_sub z x (by omega) (by omega)] at hp
      obtain rfl := h2 z ((hmem z).2 ⟨hz, (hml z hz).1 he⟩) hp
      exact hne rfl
  unfold uncL
  rw [hl]
  exact key _ rfl
theorem unc_min {C : Nat} {ll : List (List Int)} {m : Int} (hf : fineT (C : Int) ll m = true) (h1 : 1 ≤ C) (hC : C ≤ 5) :
    uncL ((candL C).filter (fun d => holdsD (C : Int) ll m d.1 d.2)) = minD C ll m := by
  rw [unc_low hC]
  unfold minD
  refine mdOut_same _ fun S hS r hr => ?_
  obtain ⟨x, hx, rfl⟩ := (parts_mem hC S).1 hS
  rw [Bool.eq_iff_iff, decide_eq_true_iff]
  show _ ↔ minN C ll m x r = true
  refine low_min hC hr (fun z hz => ?_) hx
  rw [Bool.and_eq_true, Bool.not_eq_true']
  have ho := okD_all (S := z) (R := r) hf h1 hC hz hr
  have h3 := holds_iff ho rfl rfl rfl hC hr
  rw [← h3]
  exact Iff.rfl
theorem unc_app {C : Nat} {ll : List (List Int)} {m rows : Int} (hC : C ≤ 5) :
    uncL ((candL C).filter (fun d => decide (remD (C : Int) ll m d.1 d.2 ≤ rows))) = appD C ll m rows := by
  rw [unc_low hC]
  rfl
/-- The greatest and the smallest sets hang on the members alone. -/
theorem maxS_ext {l l' : List Int} (h : setsOk l = true) (h' : setsOk l' = true) (he : ∀ y, y ∈ l ↔ y ∈ l') : maxS l = maxS l' := by
  unfold maxS
  rw [if_pos h, if_pos h']
  refine ascI_unique _ _ (mxTo_asc _ _) (mxTo_asc _ _) fun y => ?_
  have step : ∀ (a b : List Int), (∀ y, y ∈ a ↔ y ∈ b) → y ∈ mxTo a a.length → y ∈ mxTo b b.length := by
    intro a b hab hy
    rw [mxTo_mem] at hy ⊢
    obtain ⟨t, t1, t2, t3⟩ := hy
    obtain ⟨s, s1, s2⟩ := mem_getD.1 ((hab y).1 (mem_getD.2 ⟨t, t1, t2⟩))
    refine ⟨s, s1, s2, (topK_iff _ _ _).2 fun u hu => ?_⟩
    obtain ⟨v, v1, v2⟩ := mem_getD.1 ((hab _).2 (mem_getD.2 ⟨u, hu, rfl⟩))
    have := (topK_iff _ _ _).1 t3 v v1
    rw [← v2] at this
    exact this
  exact ⟨step _ _ he, step _ _ fun z => (he z).symm⟩
theorem minS_ext {l l' : List Int} (h : setsOk l = true) (h' : setsOk l' = true) (he : ∀ y, y ∈ l ↔ y ∈ l') : minS l = minS l' := by
  unfold minS
  rw [if_pos h, if_pos h']
  refine ascI_unique _ _ (mnTo_asc _ _) (mnTo_asc _ _) fun y => ?_
  have step : ∀ (a b : List Int), (∀ y, y ∈ a ↔ y ∈ b) → y ∈ mnTo a a.length → y ∈ mnTo b b.length := by
    intro a b hab hy
    rw [mnTo_mem] at hy ⊢
    obtain ⟨t, t1, t2, t3⟩ := hy
    obtain ⟨s, s1, s2⟩ := mem_getD.1 ((hab y).1 (mem_getD.2 ⟨t, t1, t2⟩))
    refine ⟨s, s1, s2, (lowK_iff _ _ _).2 fun u hu => ?_⟩
    obtain ⟨v, v1, v2⟩ := mem_getD.1 ((hab _).2 (mem_getD.2 ⟨u, hu, rfl⟩))
    have := (lowK_iff _ _ _).1 t3 v v1
    rw [← v2] at this
    exact this
  exact ⟨step _ _ he, step _ _ fun z => (he z).symm⟩
theorem parts_len32 {C : Nat} (hC : C ≤ 5) : (parts (C : Int)).length ≤ 32 := by
  have h2 : ∀ C : Fin 6, (parts ((C.val : Nat) : Int)).length ≤ 32 := by decide +kernel
  exact h2 ⟨C, by omega⟩
theorem filt_ok {C : Nat} (hC : C ≤ 5) (g : Int → Bool) : setsOk ((parts (C : Int)).filter g) = true := by
  have h32 := two5 hC
  unfold setsOk
  rw [Bool.and_eq_true, decide_eq_true_iff, List.all_eq_true]
  refine ⟨fun y hy => ?_, ?_⟩
  · obtain ⟨x, hx, rfl⟩ := (parts_mem hC y).1 (List.mem_filter.1 hy).1
    have h : ∀ x : Fin 32, valB ((x.val : Nat) : Int) = true := by decide +kernel
    exact h ⟨x, by omega⟩
  · have h1 := List.length_filter_le g (parts (C : Int))
    have := parts_len32 hC
    omega
theorem filt_brd {C : Nat} (hC : C ≤ 5) {g : Int → Bool} {f : Nat → Bool} (h : ∀ x : Nat, x < 2 ^ C → g (x : Int) = f x) (y : Int) : y ∈ (parts (C : Int)).filter g ↔ y ∈ brdTo f (2 ^ C) := by
  rw [List.mem_filter, brdTo_mem]
  constructor
  · rintro ⟨h1, h2⟩
    obtain ⟨x, hx, rfl⟩ := (parts_mem hC y).1 h1
    exact ⟨x, hx, by rw [← h x hx]; exact h2, rfl⟩
  · rintro ⟨x, hx, h2, rfl⟩
    exact ⟨(parts_mem hC _).2 ⟨x, hx, rfl⟩, by rw [h x hx]; exact h2⟩
theorem max_filt {C : Nat} (hC : C ≤ 5) {g : Int → Bool} {f : Nat → Bool} (h : ∀ x : Nat, x < 2 ^ C → g (x : Int) = f x) : maxS ((parts (C : Int)).filter g) = maxS (brdTo f (2 ^ C)) :=
  maxS_ext (filt_ok hC g) (brdTo_ok f (two5 hC)) (filt_brd hC h)
theorem min_filt {C : Nat} (hC : C ≤ 5) {g : Int → Bool} {f : Nat → Bool} (h : ∀ x : Nat, x < 2 ^ C → g (x : Int) = f x) : minS ((parts (C : Int)).filter g) = minS (brdTo f (2 ^ C)) :=
  minS_ext (filt_ok hC g) (brdTo_ok f (two5 hC)) (filt_brd hC h)
theorem holds_h7 {C : Nat} {ll : List (List Int)} {m : Int} (hf : fineT (C : Int) ll m = true) (h1 : 1 ≤ C) (hC : C ≤ 5) {x R : Nat} (hx : x < 2 ^ C) (hR : R < C) : holdsD (C : Int) ll m (x : Int) (R : Int) = h7 C ll m x R := by
  have ho := okD_all (S := x) (R := R) hf h1 hC hx hR
  have h3 := holds_iff ho rfl rfl rfl hC hR
  rw [Bool.eq_iff_iff, h3, h7_iff hC hR]
/-- The border, from the list of sets by size. -/
theorem brd_filt {C : Nat} {ll : List (List Int)} {m : Int} {R : Nat} (hf : fineT (C : Int) ll m = true) (h1 : 1 ≤ C) (hC : C ≤ 5) (hR : R < C) :
    maxS (((parts (C : Int)).filter (fun S => !bitB S.toNat R)).filter (fun S => !holdsD (C : Int) ll m S (R : Int))) = brdL C ll m R := by
  rw [List.filter_filter]
  unfold brdL
  refine max_filt hC fun x hx => ?_
  rw [holds_h7 hf h1 hC hx hR]
  show (_ && !bitB x R) = _
  rw [Bool.and_comm]
theorem parts_small (n S : Int) (h : S ∈ parts n) : ∃ X : Nat, S = (X : Int) ∧ X < 32 := by
  by_cases hn : 0 ≤ n ∧ n ≤ 5
  · obtain ⟨C, rfl⟩ : ∃ C : Nat, n = (C : Int) := ⟨n.toNat, by omega⟩
    obtain ⟨h0, h1⟩ := parts_nat ⟨C, by omega⟩ S h
    exact ⟨S.toNat, by omega, by omega⟩
  · unfold parts at h
    rw [if_neg hn] at h
    cases h
theorem all_hit {p : Int → Bool} (l : List Int) (d : Int) (k : Nat) (h : k < l.length) (hp : p (l.getD k d) = false) : l.all p = false := by
  cases h' : l.all p with
  | false => rfl
  | true =>
    have := List.all_eq_true.1 h' (l.getD k d) (by rw [List.getD_eq_getElem?_getD, List.getElem?_eq_getElem h]; exact List.getElem_mem h)
    rw [hp] at this; cases this
end Go.Proofs.YtlecfkfcjhliiaaGreat
namespace Go.Proofs.YtlecfkfcjhliiaaGreat
open Go.RowKit

/-- The slice value v can be read: it holds these dependencies. -/
def ReadD (w : World) (v : Value) (ds : List (Int × Int)) : Prop :=
  ∃ (a : Option Addr) (cap : Nat), v = .slice a ds.length cap ∧ ∀ i, i < ds.length → ∃ b o, a = some ⟨b, o, none⟩ ∧ w.cell? ⟨b, o + i * 2, none⟩ = some (.int .i64 (ds.getD i (0, 0)).1) ∧ w.cell? ⟨b, o + i * 2 + 1, none⟩ = some (.int .i64 (ds.getD i (0, 0)).2)
set_option maxHeartbeats 800000 in
theorem sameDeps_any (v v' : Value) (d e : List (Int × Int)) (w : World) (hr : ReadD w v d) (hr' : ReadD w v' e) (hl : d.length ≤ 1048576) :
    Calls Tryz.prog 10 #[v, v'] w fun e' w' => e' = .returned (.bool (decide (d = e))) ∧ Below w.heap.size w w' := by
  obtain ⟨p, cap, rfl, ha⟩ := hr
  obtain ⟨p', cap', rfl, ha'⟩ := hr'
  have HA := Lib.hid ha
  have HA' := Lib.hid ha'
  clear ha ha'
  by_cases hlen : d.length = e.length
  · have HLE := Lib.hid hlen
    clear hlen
    have hne : ((d.length : Int) != (e.length : Int)) = false := by rw [HLE.out]; simp
    go_enter Tryz.func10, Tryz.ntmps10
    go_wp2_with fail
    go_loopw [5] (fun iv wr => ∃ i : Nat, i ≤ d.length ∧ iv = .int .i64 (i : Int) ∧ Hid (d.take i = e.take i) ∧ Below w.heap.size w wr) (fun iv _ => d.length - (intOf iv).toNat)
    case atStart => exact ⟨0, by omega, rfl, Lib.hid (by simp), Below.refl _ _⟩
    case round =>
      obtain ⟨i, hi, rfl, HT, hb⟩ := hrel
      by_cases hlt : i < d.length
      · obtain ⟨b, o, rfl, h0, h1⟩ := HA.out i hlt
        have hle2 : i < e.length := by rw [← HLE.out]; exact hlt
        obtain ⟨b', o', rfl, h0', h1'⟩ := HA'.out i hle2
        replace h0 := (hb.cell (World.block_lt_of_cell? w _ h0)).trans h0
        replace h1 := (hb.cell (World.block_lt_of_cell? w _ h1)).trans h1
        replace h0' := (hb.cell (World.block_lt_of_cell? w _ h0')).trans h0'
        replace h1' := (hb.cell (World.block_lt_of_cell? w _ h1')).trans h1'
        have z0 : (0 : Int) ≤ (i : Int) := by omega
        have z1 : (i : Int) < (d.length : Int) := by omega
        have z2 : (i : Int) < (e.length : Int) := Int.ofNat_lt.2 hle2
        have HX := Lib.hid (take_succ_getD d (0, 0) i hlt)
        have HY := Lib.hid (take_succ_getD e (0, 0) i hle2)
        obtain ⟨⟨x0, x1⟩, hx⟩ : ∃ z, z = d.getD i (0, 0) := ⟨_, rfl⟩
        obtain ⟨⟨y0, y1⟩, hy⟩ : ∃ z, z = e.getD i (0, 0) := ⟨_, rfl⟩
        rw [← hx] at h0 h1 HX
        rw [← hy] at h0' h1' HY
        simp only at h0 h1 h0' h1'
        by_cases he : x0 = y0 ∧ x1 = y1
        · obtain ⟨rfl, rfl⟩ := he
          have HN : Hid (d.take (i + 1) = e.take (i + 1)) := Lib.hid (by rw [HX.out, HY.out, HT.out])
          go_wp2_with fail
          go_region
          go_wp2_with fail
          go_roundw
          case rel => exact ⟨i + 1, by omega, by go_num, HN, hb.drew⟩
          case measure => simp [intOf]; omega
        · have HN : Hid (decide (d = e) = false) := Lib.hid (decide_eq_false fun h => he (by
            subst h
            rw [← hx] at hy
            cases hy; exact ⟨rfl, rfl⟩))
          by_cases he0 : x0 = y0
          · have he1 : ¬ x1 = y1 := fun h => he ⟨he0, h⟩
            clear he hx hy
            go_wp2_with fail
            go_region
            go_wp2_with fail
            go_ret
            exact ⟨ret_b HN.out, hb.drew⟩
          · clear he hx hy
            go_wp2_with fail
            go_region
            go_wp2_with fail
            go_ret
            exact ⟨ret_b HN.out, hb.drew⟩
      · obtain rfl : i = d.length := by omega
        have HN : Hid (decide (d = e) = true) := Lib.hid (decide_eq_true (by
          have h := HT.out
          rw [List.take_length, HLE.out, List.take_length] at h
          exact h))
        go_wp2_with fail
        go_ret
        exact ⟨ret_b HN.out, hb⟩
  · have HN : Hid (decide (d = e) = false) := Lib.hid (decide_eq_false fun h => hlen (by rw [h]))
    have hne : ((d.length : Int) != (e.length : Int)) = true := by rw [bne_iff_ne]; omega
    clear hlen
    go_enter Tryz.func10, Tryz.ntmps10
    go_wp2_with fail
    go_ret
    exact ⟨ret_b HN.out, Below.refl _ _⟩
end Go.Proofs.YtlecfkfcjhliiaaGreat
namespace Go.Proofs.YtlecfkfcjhliiaaGreat
open Go.RowKit

/-- The cells of a list of dependencies. -/
def depsV : List (Int × Int) → List Value
  | [] => []
  | d :: t => .int .i64 d.1 :: .int .i64 d.2 :: depsV t
theorem depsV_len : ∀ ds : List (Int × Int), (depsV ds).length = ds.length * 2
  | [] => rfl
  | d :: t => by simp only [depsV, List.length_cons, depsV_len t]; omega
theorem depsV_get : ∀ (ds : List (Int × Int)) (i : Nat), i < ds.length → (depsV ds)[i * 2]? = some (.int .i64 (ds.getD i (0, 0)).1) ∧ (depsV ds)[i * 2 + 1]? = some (.int .i64 (ds.getD i (0, 0)).2)
  | [], i, h => absurd h (Nat.not_lt_zero _)
  | d :: t, 0, _ => ⟨rfl, rfl⟩
  | d :: t, i + 1, h => by
    have ih := depsV_get t i (by simpa using h)
    rw [show (i + 1) * 2 = i * 2 + 1 + 1 by omega]
    simpa [depsV] using ih
theorem depsV_set : ∀ (ds : List (Int × Int)) (i : Nat) (a b : Int), ((depsV ds).set (i * 2) (.int .i64 a)).set (i * 2 + 1) (.int .i64 b) = depsV (ds.set i (a, b))
  | [], i, a, b => by simp [depsV]
  | d :: t, 0, a, b => rfl
  | d :: t, i + 1, a, b => by
    have ih := depsV_set t i a b
    rw [show (i + 1) * 2 = i * 2 + 1 + 1 by omega]
    simp only [depsV, List.set_cons_succ]
    rw [ih]
/-- A slice of dependencies that the call owns. -/
def OwnD (w : World) (B : Nat) (v : Value) (ds : List (Int × Int)) : Prop := w.ownsRow B 37 2 v ds.length (depsV ds)
theorem infoDp : (Tryz.prog.info? 37).map (fun i => (i.zero, i.size, i.bytes)) = some (some (.agg #[.int .i64 0, .int .i64 0]), 2, 16) := by kernel_rfl
theorem OwnD.read {w : World} {B : Nat} {v : Value} {ds : List (Int × Int)} (h : OwnD w B v ds) : ReadD w v ds := by
  rcases h.2 with ⟨rfl, h0⟩ | ⟨g, cap, cur, rfl, hB, hgg, rest⟩
  · exact ⟨none, 0, by rw [h0], fun i hi => by omega⟩
  · refine ⟨_, cap, rfl, fun i hi => ⟨g, 0, rfl, ?_, ?_⟩⟩
    · rw [Nat.zero_add, World.ownsRow.cellAt h (i * 2) (by omega), (depsV_get ds i hi).1]
    · rw [Nat.zero_add, World.ownsRow.cellAt h (i * 2 + 1) (by omega), (depsV_get ds i hi).2]
theorem ReadD.kept {w w' : World} {v : Value} {ds : List (Int × Int)} (h : ReadD w v ds) (hb : Below w.heap.size w w') : ReadD w' v ds := by
  obtain ⟨a, cap, hv, hc⟩ := h
  refine ⟨a, cap, hv, fun i hi => ?_⟩
  obtain ⟨b, o, ha, h0, h1⟩ := hc i hi
  exact ⟨b, o, ha, (hb.cell (World.block_lt_of_cell? w _ h0)).trans h0, (hb.cell (World.block_lt_of_cell? w _ h1)).trans h1⟩
theorem OwnD.lt {w : World} {B : Nat} {v : Value} {ds : List (Int × Int)} (h : OwnD w B v ds) : ∀ k, v.ownBlock = some k → B ≤ k ∧ k < w.heap.size := World.ownsRow.lt h
theorem OwnD.below {w w' : World} {B C : Nat} {v : Value} {ds : List (Int × Int)} (h : OwnD w B v ds) (hb : Below C w w') (hC : ∀ k, v.ownBlock = some k → k < C) : OwnD w' B v ds := by
  refine ⟨h.1, ?_⟩
  rcases h.2 with hn | ⟨g, cap, cur, rfl, hB, hgg, rest⟩
  · exact .inl hn
  · exact .inr ⟨g, cap, cur, rfl, hB, (hb.block g (hC g rfl)).trans hgg, rest⟩
theorem OwnD.store {w : World} {B g cap n : Nat} {ds : List (Int × Int)} (h : OwnD w B (.slice (some ⟨g, 0, none⟩) n cap) ds) (i : Nat) (a b : Int) : OwnD ((w.setCell ⟨g, i * 2, none⟩ (.int .i64 a)).setCell ⟨g, i * 2 + 1, none⟩ (.int .i64 b)) B (.slice (some ⟨g, 0, none⟩) n cap) (ds.set i (a, b)) := by
  have hn : n = ds.length := by rcases h.2 with ⟨h', _⟩ | ⟨g', cap', cur, h', _⟩ <;> simp at h'; omega
  subst hn
  have h1 := (World.ownsRow.stored (World.ownsRow.stored h (i * 2) (.int .i64 a)).1 (i * 2 + 1) (.int .i64 b)).1
  rw [depsV_set] at h1
  unfold OwnD
  rw [List.length_set]; exact h1
theorem depsV_zero : ∀ n : Nat, depsV (List.replicate n (0, 0)) = List.replicate (n * 2) (.int .i64 0)
  | 0 => rfl
  | n + 1 => by
    rw [show (n + 1) * 2 = n * 2 + 1 + 1 by omega, List.replicate_succ, List.replicate_succ, List.replicate_succ, depsV, depsV_zero n]
theorem made_deps (n : Nat) : (madeCells (Value.cells (.agg #[.int .i64 0, .int .i64 0])) (n * 2)).toList = depsV (List.replicate n (0, 0)) := by
  rw [depsV_zero]
  unfold madeCells
  apply List.ext_getElem
  · simp
  · intro i h1 h2
    simp only [Array.toList_map, List.getElem_map, List.getElem_replicate, Array.getElem_toList, Array.getElem_range]
    show (#[Value.int .i64 0, Value.int .i64 0])[i % 2]! = _
    rcases (show i % 2 = 0 ∨ i % 2 = 1 by omega) with h | h <;> rw [h] <;> rfl
theorem OwnD.full {w : World} {B : Nat} {v : Value} {n : Nat} (h : w.ownsRow B 37 2 v n (madeCells (Value.cells (.agg #[.int .i64 0, .int .i64 0])) (n * 2)).toList) : OwnD w B v (List.replicate n (0, 0)) := by
  unfold OwnD
  rw [List.length_replicate, ← made_deps]; exact h
/-- A slice of dependencies of the call's own. -/
def RetD (ds : List (Int × Int)) (w : World) (e : Ending) (w' : World) : Prop := ∃ v, e = .returned v ∧ OwnD w' w.heap.size v ds ∧ Below w.heap.size w w'
/-- What a region of two lists' places holds on to. -/
theorem keep4 {w3 w' w'' : World} {p0 p1 p2 p3 : Addr} {v0 v1 v2 v3 : Value} (h : w'.cell? p0 = some v0 ∧ w'.cell? p1 = some v1 ∧ w'.cell? p2 = some v2 ∧ w'.cell? p3 = some v3 ∧ Below w3.heap.size w3 w') (b : Below w'.heap.size w' w'') :
    w''.cell? p0 = some v0 ∧ w''.cell? p1 = some v1 ∧ w''.cell? p2 = some v2 ∧ w''.cell? p3 = some v3 ∧ Below w3.heap.size w3 w'' :=
  ⟨(b.cell (World.block_lt_of_cell? _ _ h.1)).trans h.1, (b.cell (World.block_lt_of_cell? _ _ h.2.1)).trans h.2.1, (b.cell (World.block_lt_of_cell? _ _ h.2.2.1)).trans h.2.2.1, (b.cell (World.block_lt_of_cell? _ _ h.2.2.2.1)).trans h.2.2.2.1, h.2.2.2.2.trans (b.mono h.2.2.2.2.size)⟩
theorem below4 {w3 w' : World} {p0 p1 p2 p3 : Addr} {v0 v1 v2 v3 : Value} (h : w'.cell? p0 = some v0 ∧ w'.cell? p1 = some v1 ∧ w'.cell? p2 = some v2 ∧ w'.cell? p3 = some v3 ∧ Below w3.heap.size w3 w') : Below w3.heap.size w3 w' := h.2.2.2.2
theorem dep_box2 (w : World) (T T' : TypeId) (a b l r : Value) : (((w.alloc (.cells #[a, b] T)).alloc (.cells #[l, r] T')).cell? ⟨w.heap.size, 0, none⟩ = some a ∧ ((w.alloc (.cells #[a, b] T)).alloc (.cells #[l, r] T')).cell? ⟨w.heap.size, 1, none⟩ = some b) ∧ ((w.alloc (.cells #[a, b] T)).alloc (.cells #[l, r] T')).cell? ⟨w.heap.size + 1, 0, none⟩ = some l ∧ ((w.alloc (.cells #[a, b] T)).alloc (.cells #[l, r] T')).cell? ⟨w.heap.size + 1, 1, none⟩ = some r := boxTD (Below.refl _ _)
end Go.Proofs.YtlecfkfcjhliiaaGreat
namespace Go.Proofs.YtlecfkfcjhliiaaGreat
open Go.RowKit

theorem depsV_append (a b : List (Int × Int)) : depsV (a ++ b) = depsV a ++ depsV b := by
  induction a with
  | nil => rfl
  | cons x t ih => simp [depsV, ih]
theorem cell_two_new (w : World) (x y : Value) (t : TypeId) : ∀ j u, [x, y][j]? = some u → (w.alloc (.cells #[x, y] t)).cell? ((⟨w.heap.size, 0, none⟩ : Addr).add j) = some u := by
  intro j u hj
  match j, hj with
  | 0, hj =>
    simp at hj
    subst hj
    simp [Addr.add]
  | 1, hj =>
    simp at hj
    subst hj
    simp [Addr.add]
theorem two_i64 (x y : Int) : ∀ u ∈ [Value.int .i64 x, Value.int .i64 y], u.oneCell' = true := by
  intro u hu
  simp at hu
  rcases hu with rfl | rfl <;> rfl
theorem OwnD.nil (w : World) (B : Nat) : OwnD w B (.slice .none 0 0) [] := World.ownsRow_nil _ _ _ _
theorem OwnD.snoc {w : World} {B : Nat} {v : Value} {ds : List (Int × Int)} {x y : Int} (h : w.ownsRow B 37 2 v (ds.length + 1) (depsV ds ++ [.int .i64 x, .int .i64 y])) : OwnD w B v (ds ++ [(x, y)]) := by
  unfold OwnD
  rw [List.length_append, List.length_singleton, depsV_append]; exact h
theorem OwnD.base {w : World} {B B' : Nat} {v : Value} {ds : List (Int × Int)} (h : OwnD w B v ds) (hB : B' ≤ B) : OwnD w B' v ds := by
  refine ⟨h.1, ?_⟩
  rcases h.2 with hn | ⟨g, cap, cur, rfl, hb, rest⟩
  · exact .inl hn
  · exact .inr ⟨g, cap, cur, rfl, by omega, rest⟩
theorem OwnD.shape {w : World} {B : Nat} {v : Value} {ds : List (Int × Int)} (h : OwnD w B v ds) : ∃ a c, v = .slice a ds.length c := by
  rcases h.2 with ⟨rfl, h0⟩ | ⟨g, cap, cur, rfl, -⟩
  · exact ⟨_, _, by rw [h0]⟩
  · exact ⟨_, _, rfl⟩
/-- Blocks of rows of dependencies and blocks of rows of ints differ. -/
theorem dep_apart {w : World} {B B' : Nat} {v v' : Value} {n : Nat} {xs : List Value} {l : List Int} (h : w.ownsRow B 37 2 v n xs) (h' : OwnI w B' v' l) : ∀ g, v.ownBlock = some g → v'.ownBlock ≠ some g := by
  intro g hg hg'
  rcases h.2 with ⟨rfl, _⟩ | ⟨g1, cap, cur, rfl, hB, hgg, rest⟩
  · cases hg
  · rcases h'.2 with ⟨rfl, _⟩ | ⟨g2, cap2, cur2, rfl, hB2, hgg2, rest2⟩
    · cases hg'
    · simp [Value.ownBlock] at hg hg'
      subst hg hg'
      rw [hgg] at hgg2
      simp at hgg2
theorem one_at (w : World) (T : TypeId) (a : Value) : (w.alloc (.cells #[a] T)).cell? ⟨w.heap.size, 0, none⟩ = some a := World.cell?_alloc_mark w #[a] T (0, 0) 0
/-- A cell of a block that no row from B on holds is as it was, when a row grew. -/
theorem kept_cell {w w' : World} {row : Option Nat} {B : Nat} {p : Addr} (hg : w.grownBy w' row) (hB : ∀ g, row = some g → B < g) (hp : p.block < w.heap.size) (hlt : p.block ≤ B) : w'.cell? p = w.cell? p :=
  World.cell?_of_block (hg.block p.block hp (fun e => by have := hB p.block e.symm; omega))
end Go.Proofs.YtlecfkfcjhliiaaGreat
