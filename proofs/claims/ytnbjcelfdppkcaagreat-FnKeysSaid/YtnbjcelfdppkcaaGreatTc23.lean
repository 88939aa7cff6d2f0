/- Texts of this claim, merged: TrD, TrE, TrF, ImB, TpA. Conditions: as stated. -/
import Derived.Test.YtnbjcelfdppkcaaGreatTc22
import Derived.Deep.AppendLies
import Derived.Deep.RegionLaw
import Derived.Laws.OwnMore
import Derived.Test.YtnbjcelfdppkcaaGreatTc11
import Derived.Test.YtnbjcelfdppkcaaGreatTc12
namespace Go.Proofs.YtnbjcelfdppkcaaGreat
open Go.RowKit

theorem grwOne_len (e y : Int) : ∀ k, (grwOne e y k).length ≤ k
  | 0 => by simp [grwOne]
  | k + 1 => by
    have := grwOne_len e y k
    unfold grwOne
    split
    · rw [List.length_append, List.length_singleton]; omega
    · omega
theorem grwTo_len (l : List Int) (e : Int) : ∀ i, (grwTo l e i).length ≤ 5 * i
  | 0 => by simp [grwTo]
  | i + 1 => by
    have := grwTo_len l e i
    have := grwOne_len e (l.getD i 0) 5
    unfold grwTo
    split
    · rw [List.length_append, List.length_singleton]; omega
    · rw [List.length_append]; omega
theorem ddTo_len (l : List Int) : ∀ i, (ddTo l i).length ≤ i
  | 0 => by simp [ddTo]
  | i + 1 => by
    have := ddTo_len l i
    have := put4_len (ddTo l i) (l.getD i 0)
    unfold ddTo
    omega
end Go.Proofs.YtnbjcelfdppkcaaGreat
namespace Go.Proofs.YtnbjcelfdppkcaaGreat
open Go.RowKit

section
set_option maxRecDepth 20000
set_option maxHeartbeats 3200000
end
end Go.Proofs.YtnbjcelfdppkcaaGreat
namespace Go.Proofs.YtnbjcelfdppkcaaGreat
open Go.RowKit

theorem minS_le (l : List Int) : (minS l).length ≤ l.length := by
  unfold minS
  split
  · exact mnTo_len l _
  · exact Nat.zero_le _
theorem grwL_len (l : List Int) (e : Int) : (grwL l e).length ≤ 500 := by
  unfold grwL
  split
  · rename_i h
    rw [Bool.and_eq_true] at h
    have h1 := h.1
    unfold setsOk at h1
    rw [Bool.and_eq_true, decide_eq_true_iff] at h1
    have h2 := minS_le (ddTo (grwTo l e l.length) (grwTo l e l.length).length)
    have h3 := ddTo_len (grwTo l e l.length) (grwTo l e l.length).length
    have h4 := grwTo_len l e l.length
    omega
  · exact Nat.zero_le _
theorem trTo_len (E : List Int) : ∀ i, (trTo E i).length ≤ 500
  | 0 => by show ([0] : List Int).length ≤ 500; decide
  | i + 1 => grwL_len _ _
theorem nil_own (w wr : World) (hb : Below w.heap.size w wr) : OwnI (wr.alloc (.cells #[] 3)) w.heap.size (.slice (some ⟨wr.heap.size, 0, none⟩) 0 0) [] ∧ Below w.heap.size w (wr.alloc (.cells #[] 3)) :=
  ⟨OwnI.made (World.ownsRow_made wr #[] 0 hb.size (by unfold maxLen; omega) rfl), hb.alloc hb.size _⟩
section
set_option maxRecDepth 20000
set_option maxHeartbeats 3200000
end
end Go.Proofs.YtnbjcelfdppkcaaGreat
namespace Go.Proofs.YtnbjcelfdppkcaaGreat
open Go.RowKit

set_option maxHeartbeats 800000 in
theorem members_any (X : Nat) (hX : X < 32) (w : World) :
    Calls Tryz.prog 53 #[.int .i64 (X : Int)] w (RetI (mems (X : Int)) w) := by
  obtain ⟨i0, hi, hz0, hz1, hz2⟩ := info_parts info3i
  have HI : Hid (_ ∧ _ ∧ _ ∧ _) := Lib.hid ⟨hi, hz0, hz1, hz2⟩
  clear hi hz0 hz1 hz2
  have he : mems (X : Int) = memN X 5 := by unfold mems; rw [if_pos (by omega)]; rfl
  have HE := Lib.hid he
  clear he
  have HH := Lib.hid (fun (k : Nat) (hk : k ≤ 62) (w : World) => has_any X k hk w)
  go_enter Tryz.func53, Tryz.ntmps53
  go_wp2_with (at_make; refine wpList_make_own _ rfl _ _ 29 rfl w.heap.size 3 i0 (.int .i64 0) 1 Tryz.underlying29 HI.out.1 HI.out.2.1 HI.out.2.2.1 .i64 .i64 _ 5 rfl rfl (by omega) (by rw [HI.out.2.2.2]; omega) (by unfold maxLen; omega) (Nat.le_refl _) ?_; intro w0 hown0 hgrow0)
  have hb0 := (Below.refl w.heap.size w).grown hgrow0 (Nat.le_refl _) (by simp)
  have hown := OwnI.made hown0
  clear hown0 hgrow0
  go_loopw [3, 4] (fun ov iv wr => ∃ (k : Nat) (l : List Int), k ≤ 5 ∧ iv = .int .i64 (k : Int) ∧ Hid (l = memN X k) ∧ OwnI wr w.heap.size ov l ∧ Below w.heap.size w wr) (fun _ iv _ => (5 - intOf iv).toNat)
  case atStart => exact ⟨0, [], by omega, rfl, Lib.hid rfl, hown, hb0⟩
  case round =>
    obtain ⟨k, l, hk, rfl, hl, ho, hb⟩ := hrel
    by_cases hlt : k < 5
    · have hll : l.length ≤ 5 := by rw [hl.out]; have := memN_len X k; omega
      by_cases hB : bitB X k = true
      · go_wp2_with fail
        refine (HH.out k (by omega) _).mono ?_
        rintro e w' ⟨rfl, rfl⟩
        go_wp2_with (at_builtin; refine wpList_append_own _ rfl _ _ 29 rfl w.heap.size 3 i0 (.int .i64 0) 1 8 Tryz.underlying29 HI.out.1 HI.out.2.1 HI.out.2.2.1 HI.out.2.2.2 rfl (by decide) _ _ _ rfl (World.ownsRow.alloc ho _) ⟨wr.heap.size, 0, none⟩ 1 1 [.int .i64 (k : Int)] rfl rfl (cell_one_new _ _ _) (one_i64 _) (by unfold maxLen; omega) (by omega) (le_alloc hb (Nat.le_refl _) _) ?_; intro v' w1 hown' hgrow _)
        have ho' := OwnI.snoc hown'
        have hb' := (hb.alloc hb.size (.cells #[.int .i64 (k : Int)] 3)).grown hgrow (by simp; have := hb.size; omega) (fun k hk => (OwnI.lt ho k hk).1)
        clear hown' hgrow
        go_wp2_with fail
        go_roundw
        case rel => exact ⟨k + 1, _, by omega, by go_num, Lib.hid (by rw [memN_succ, if_pos hB, ← hl.out]), ho', hb'⟩
        case measure => simp [intOf]; omega
      · have hB2 : bitB X k = false := by simpa using hB
        go_wp2_with fail
        refine (HH.out k (by omega) _).mono ?_
        rintro e w' ⟨rfl, rfl⟩
        go_wp2_with fail
        go_roundw
        case rel => exact ⟨k + 1, _, by omega, by go_num, Lib.hid (by rw [memN_succ, if_neg hB, ← hl.out]), ho, hb⟩
        case measure => simp [intOf]; omega
    · obtain rfl : k = 5 := by omega
      go_wp2_with fail
      go_ret
      exact ⟨_, rfl, by rw [HE.out, ← hl.out]; exact ho, hb⟩
theorem OwnI.none (w : World) (B : Nat) : OwnI w B (.slice .none 0 0) [] := World.ownsRow_nil _ _ _ _
set_option maxHeartbeats 1600000 in
theorem implParts_any (n : Int) (w : World) :
    Calls Tryz.prog 17 #[.int .i64 n] w (RetI (parts n) w) := by
  obtain ⟨i0, hi, hz0, hz1, hz2⟩ := info_parts info3i
  have HI : Hid (_ ∧ _ ∧ _ ∧ _) := Lib.hid ⟨hi, hz0, hz1, hz2⟩
  clear hi hz0 hz1 hz2
  by_cases hn : 0 ≤ n ∧ n ≤ 5
  · obtain ⟨N, rfl⟩ : ∃ N : Nat, n = (N : Int) := ⟨n.toNat, by omega⟩
    have hN : N ≤ 5 := by omega
    have h1 : decide (0 ≤ (N : Int) ∧ (N : Int) ≤ 5) = true := by simp; omega
    have HE : Hid (parts (N : Int) = bySize N (N + 1)) := Lib.hid (by unfold parts; rw [if_pos hn]; rfl)
    obtain ⟨M, hM, hM31⟩ : ∃ M : Nat, M + 1 = 2 ^ N ∧ M ≤ 31 := by
      have : 2 ^ N ≤ 2 ^ 5 := Nat.pow_le_pow_right (by omega) hN
      have : 0 < 2 ^ N := Nat.pow_pos (by omega)
      exact ⟨2 ^ N - 1, by omega, by omega⟩
    have HM := Lib.hid hM
    have HA : Hid (∀ w, Calls Tryz.prog 25 #[.int .i64 (N : Int)] w fun e w' => e = .returned (.int .i64 (M : Int)) ∧ w = w') :=
      Lib.hid fun w => (first_any (N : Int) w hn.1 hn.2).mono fun _ _ ⟨a, b⟩ => ⟨by
        rw [a, show (N : Int).toNat = N from rfl, show ((2 : Int) ^ N - 1) = (M : Int) by
          have h3 : ((2 ^ N : Nat) : Int) = (2 : Int) ^ N := by rw [Int.natCast_pow]; rfl
          omega], b⟩
    have HIN : Hid (∀ w, Calls Tryz.prog 39 #[.int .i64 (N : Int)] w fun e w' => e = .returned (.bool true) ∧ w = w') := Lib.hid fun w => (colCount_any (N : Int) w).mono fun _ _ ⟨a, b⟩ => ⟨by rw [a, h1], b⟩
    have HS : Hid (∀ X : Nat, X ≤ M → ∀ w, _) := Lib.hid fun X hX w => size_any X (by omega) w
    clear hM hn h1
    go_enter Tryz.func17, Tryz.ntmps17
    go_wp2_with fail
    refine (HIN.out _).mono ?_
    rintro e w' ⟨rfl, rfl⟩
    go_wp2_with fail
    refine (HA.out _).mono ?_
    rintro e w' ⟨rfl, rfl⟩
    go_wp2_with (at_make; refine wpList_make_own _ rfl _ _ 29 rfl w.heap.size 3 i0 (.int .i64 0) 1 Tryz.underlying29 HI.out.1 HI.out.2.1 HI.out.2.2.1 .i64 .i64 _ (M + 1) rfl rfl (by omega) (by rw [HI.out.2.2.2]; omega) (by unfold maxLen; omega) (Nat.le_refl _) ?_; intro w0 hown0 hgrow0)
    have hb0 := (Below.refl w.heap.size w).grown hgrow0 (Nat.le_refl _) (by simp)
    have hown := OwnI.made hown0
    clear hown0 hgrow0
    go_loopw [4, 5] (fun ov sv wr => ∃ (s : Nat) (l : List Int), s ≤ N + 1 ∧ sv = .int .i64 (s : Int) ∧ Hid (l = bySize N s) ∧ OwnI wr w.heap.size ov l ∧ Below w.heap.size w wr) (fun _ sv _ => (N + 1 - intOf sv).toNat)
    case atStart => exact ⟨0, [], by omega, rfl, Lib.hid rfl, hown, hb0⟩
    case round =>
      obtain ⟨s, l, hs, rfl, hl, ho, hb⟩ := hrel
      by_cases hlt : s ≤ N
      · go_wp2_with fail
        obtain ⟨wo, rfl⟩ : ∃ wo : World, wo = wr := ⟨_, rfl⟩
        go_loopw [4, 6] (fun ov xv wr => ∃ (x : Nat) (l2 : List Int), x ≤ M + 1 ∧ xv = .int .i64 (x : Int) ∧ Hid (l2 = l ++ ofSize s x) ∧ OwnI wr w.heap.size ov l2 ∧ Below w.heap.size w wr) (fun _ xv _ => (M + 1 - intOf xv).toNat)
        case atStart => exact ⟨0, l, by omega, rfl, Lib.hid (by simp [ofSize]), ho, hb⟩
        case round =>
          clear ho hb
          obtain ⟨x, l2, hx, rfl, hl2, ho, hb⟩ := hrel
          have hll : l2.length ≤ 1000 := by
            rw [hl2.out, List.length_append, hl.out]
            have a1 := bySize_len N s
            have a2 := ofSize_len s x
            have a3 : s * 2 ^ N ≤ 5 * 32 := Nat.mul_le_mul (by omega) (by have := HM.out; omega)
            omega
          by_cases hxm : x ≤ M
          · by_cases hc : cnt (x : Int) = s
            · have heq : ((cnt (x : Int) : Int) == (s : Int)) = true := by simp [hc]
              have HCN := Lib.hid hc
              clear hc
              go_wp2_with fail
              refine (HS.out x hxm _).mono ?_
              rintro e w' ⟨rfl, rfl⟩
              go_wp2_with (at_builtin; refine wpList_append_own _ rfl _ _ 29 rfl w.heap.size 3 i0 (.int .i64 0) 1 8 Tryz.underlying29 HI.out.1 HI.out.2.1 HI.out.2.2.1 HI.out.2.2.2 rfl (by decide) _ _ _ rfl (World.ownsRow.alloc ho _) ⟨wr.heap.size, 0, none⟩ 1 1 [.int .i64 (x : Int)] rfl rfl (cell_one_new _ _ _) (one_i64 _) (by unfold maxLen; omega) (by omega) (le_alloc hb (Nat.le_refl _) _) ?_; intro v' w2 hown' hgrow _)
              have ho' := OwnI.snoc hown'
              have hb' := (hb.alloc hb.size (.cells #[.int .i64 (x : Int)] 3)).grown hgrow (by simp; have := hb.size; omega) (fun k hk => (OwnI.lt ho k hk).1)
              clear hown' hgrow
              go_wp2_with fail
              go_roundw
              case rel => exact ⟨x + 1, _, by omega, by go_num, Lib.hid (by rw [ofSize_succ, if_pos (by simp [HCN.out]), hl2.out, List.append_assoc]), ho', hb'⟩
              case measure => simp [intOf]; omega
            · have heq : ((cnt (x : Int) : Int) == (s : Int)) = false := by simp; omega
              have HCN := Lib.hid hc
              clear hc
              go_wp2_with fail
              refine (HS.out x hxm _).mono ?_
              rintro e w' ⟨rfl, rfl⟩
              go_wp2_with fail
              go_roundw
              case rel => exact ⟨x + 1, _, by omega, by go_num, Lib.hid (by rw [ofSize_succ, if_neg (by simp [HCN.out]), hl2.out]), ho, hb⟩
              case measure => simp [intOf]; omega
          · obtain rfl : x = M + 1 := by omega
            go_wp2_with fail
            go_roundw
            case rel => exact ⟨s + 1, _, by omega, by go_num, Lib.hid (by rw [bySize_succ, hl2.out, hl.out, HM.out]), ho, hb⟩
            case measure => simp [intOf]; omega
      · obtain rfl : s = N + 1 := by omega
        go_wp2_with fail
        go_ret
        exact ⟨_, rfl, by rw [HE.out, ← hl.out]; exact ho, hb⟩
  · have h1 : decide (0 ≤ n ∧ n ≤ 5) = false := by simp only [hn, decide_false]
    have HE : Hid (parts n = []) := Lib.hid (by unfold parts; rw [if_neg hn])
    have HIN : Hid (∀ w, Calls Tryz.prog 39 #[.int .i64 n] w fun e w' => e = .returned (.bool false) ∧ w = w') := Lib.hid fun w => (colCount_any n w).mono fun _ _ ⟨a, b⟩ => ⟨by rw [a, h1], b⟩
    clear hn
    go_enter Tryz.func17, Tryz.ntmps17
    go_wp2_with fail
    refine (HIN.out _).mono ?_
    rintro e w' ⟨rfl, rfl⟩
    go_wp2_with fail
    go_ret
    exact ⟨_, rfl, by rw [HE.out]; exact OwnI.none _ _, Below.refl _ _⟩
end Go.Proofs.YtnbjcelfdppkcaaGreat
namespace Go.Proofs.YtnbjcelfdppkcaaGreat
open Go.RowKit

theorem hitsP_any (a b : Int) (w : World) :
    Calls Tryz.prog 71 #[.int .i64 a, .int .i64 b] w fun e w' => e = .returned (.bool (bits .and .i64 a b != 0)) ∧ w = w' := by
  go_enter Tryz.func71, Tryz.ntmps71
  go_wp2_with fail
  go_ret
  exact ⟨rfl, rfl⟩
theorem hits_swap (x y : Int) : (bits .and .i64 x y != 0) = hitI y x := by
  unfold hitI
  rw [and_swap]
  rfl
theorem or_shl9 : ∀ (y : Fin 32) (j : Fin 5), bits .or .i64 ((y.val : Nat) : Int) (wrap64 (2 ^ j.val)) = bits .or .i64 ((y.val : Nat) : Int) (2 ^ j.val) := by decide +kernel
theorem mems_lt9 : ∀ L : Fin 32, ∀ y ∈ mems ((L.val : Nat) : Int), 0 ≤ y ∧ y < 5 := by decide +kernel
theorem mems_at9 {E k : Nat} (hE : E < 32) (h : k < (mems (E : Int)).length) : ∃ j : Nat, (mems (E : Int))[k] = (j : Int) ∧ j < 5 := by
  obtain ⟨h1, h2⟩ := mems_lt9 ⟨E, hE⟩ _ (List.getElem_mem h)
  exact ⟨(mems (E : Int))[k].toNat, by omega, by omega⟩
theorem add_block9 (p : Addr) (k : Nat) : (p.add k).block = p.block := by unfold Addr.add; split <;> rfl
theorem cell_grown9 {w w' : World} {g : Nat} {p : Addr} {v : Value} (h : w.grownBy w' (some g)) (hc : w.cell? p = some v) (hne : p.block ≠ g) : w'.cell? p = some v :=
  (World.cell?_of_block (h.block p.block (World.block_lt_of_cell? _ _ hc) (fun e => hne (Option.some.inj e)))).trans hc
theorem grown_trans9 {w w' w'' : World} {g : Nat} (h : w.grownBy w' (some g)) (h' : w'.grownBy w'' (some g)) : w.grownBy w'' (some g) :=
  ⟨h'.os.trans h.os, h'.tape.trans h.tape, h'.output.trans h.output, Nat.le_trans h.size h'.size, fun k hk hne => (h'.block k (Nat.lt_of_lt_of_le hk h.size) hne).trans (h.block k hk hne)⟩
theorem grown_alloc9 (w : World) (o : Obj) (g : Nat) : w.grownBy (w.alloc o) (some g) := ⟨rfl, rfl, rfl, by rw [World.size_alloc]; omega, fun k hk _ => Below.heap_alloc w o k hk⟩
set_option maxHeartbeats 1600000 in
theorem withEach_any (Y E : Nat) (hY : Y < 32) (hE : E < 32) (w : World) :
    Calls Tryz.prog 72 #[.int .i64 (Y : Int), .int .i64 (E : Int)] w (RetI (grwOne (E : Int) (Y : Int) 5) w) := by
  obtain ⟨i0, hi, hz0, hz1, hz2⟩ := info_parts info3i
  have HI : Hid (_ ∧ _ ∧ _ ∧ _) := Lib.hid ⟨hi, hz0, hz1, hz2⟩
  clear hi hz0 hz1 hz2
  have HM := Lib.hid (members_any E hE)
  have HG := Lib.hid (grwOne_mems hE (Y : Int))
  have HLN := Lib.hid (mems_len (E : Int))
  obtain ⟨M, hM⟩ : ∃ M, M = mems (E : Int) := ⟨_, rfl⟩
  have HO9 := Lib.hid (fun j => or_shl9 ⟨Y, hY⟩ j)
  have HAT : Hid (∀ k (h : k < M.length), ∃ j : Nat, M[k] = (j : Int) ∧ j < 5) := Lib.hid (by intro k h; subst hM; exact mems_at9 hE h)
  rw [← hM] at HM HG HLN
  clear hM
  go_enter Tryz.func72, Tryz.ntmps72
  go_wp2_with (at_make; refine wpList_make_own _ rfl _ _ 29 rfl w.heap.size 3 i0 (.int .i64 0) 1 Tryz.underlying29 HI.out.1 HI.out.2.1 HI.out.2.2.1 .i64 .i64 _ 5 rfl rfl (by omega) (by rw [HI.out.2.2.2]; omega) (by unfold maxLen; omega) (Nat.le_refl _) ?_; intro w0 hown0 hgrow0)
  have hb0 := (Below.refl w.heap.size w).grown hgrow0 (Nat.le_refl _) (by simp)
  have hown := OwnI.made hown0
  clear hown0 hgrow0
  refine (HM.out _).mono ?_
  rintro e w1 ⟨v1, rfl, ho1, hb1⟩
  obtain ⟨va, vc, hv1, hcells⟩ := ho1.read
  subst hv1
  have hown1 := hown.kept hb1 (fun k hk => (OwnI.lt hown k hk).2)
  have hbb := hb0.trans (hb1.mono hb0.size)
  have HC := Lib.hid hcells
  have HNE : Hid (∀ x, va = some x → x.block ≠ w.heap.size) := Lib.hid (fun x hx => by
    subst hx
    have h1 := (OwnI.lt ho1 x.block rfl).1
    have h2 := (OwnI.lt hown w.heap.size rfl).2
    omega)
  clear hcells ho1 hown hb0 hb1
  go_wp2_with fail
  go_loopw [5, 12] (fun ov iv wr => ∃ (k : Nat) (q : List Int), k ≤ M.length ∧ ov = .slice (some ⟨w.heap.size, 0, none⟩) k 5 ∧ iv = .int .i64 (k : Int) ∧ Hid (q = (M.take k).map fun j => bits .or .i64 (Y : Int) (2 ^ j.toNat)) ∧ Hid (OwnI wr w.heap.size ov q) ∧ Hid (Below w.heap.size w wr) ∧ Hid (w1.grownBy wr (some w.heap.size))) (fun _ iv _ => M.length - (intOf iv).toNat)
  case atStart => exact ⟨0, [], by omega, rfl, rfl, Lib.hid rfl, Lib.hid hown1, Lib.hid hbb, Lib.hid ⟨rfl, rfl, rfl, Nat.le_refl _, fun _ _ _ => rfl⟩⟩
  case round =>
    clear hown1 hbb
    obtain ⟨k, q, hk, rfl, rfl, hq, HO, HB, HGR⟩ := hrel
    obtain ⟨w3, hw3⟩ : ∃ w', w' = wr := ⟨_, rfl⟩
    rw [← hw3] at HO HB HGR ⊢
    clear hw3
    have z0 : (0 : Int) ≤ (k : Int) := by omega
    by_cases hlt : k < M.length
    · obtain ⟨j, hj, hj5⟩ := HAT.out k hlt
      obtain ⟨b, rfl, hb⟩ := HC.out k hlt
      rw [hj] at hb
      have z1 : (k : Int) < (M.length : Int) := by omega
      have z2 : (0 : Int) ≤ (j : Int) := by omega
      have HS : Hid ((M.take (k + 1)).map (fun j => bits .or .i64 (Y : Int) (2 ^ j.toNat)) = q ++ [bits .or .i64 (Y : Int) (2 ^ j)]) := Lib.hid (by rw [List.take_succ_eq_append_getElem hlt, List.map_append, ← hq.out, hj]; rfl)
      have HO2 := Lib.hid (HO9.out ⟨j, hj5⟩)
      have hql : q.length = k := by rw [hq.out, List.length_map, List.length_take]; omega
      have HQL := Lib.hid hql
      have HK5 : Hid (k + 1 ≤ 5) := Lib.hid (by have := HLN.out; omega)
      have hb3 := cell_grown9 HGR.out hb (by rw [add_block9]; exact HNE.out b rfl)
      have HLT := Lib.hid (OwnI.lt HO.out w.heap.size rfl)
      clear hj hb hq hql
      have hm5 := HLN.out
      go_wp2_with (at_builtin; refine wpList_append_fits _ rfl _ _ 29 rfl w.heap.size 3 i0 1 Tryz.underlying29 HI.out.1 HI.out.2.2.1 w.heap.size k 5 (intsV q) rfl (by have h := World.ownsRow.alloc HO.out (.cells #[.int .i64 (bits .or .i64 (Y : Int) (wrap64 (2 ^ j)))] 3); rw [HQL.out] at h; exact h) ⟨w3.heap.size, 0, none⟩ 1 1 [.int .i64 (bits .or .i64 (Y : Int) (wrap64 (2 ^ j)))] rfl rfl (cell_one_new _ _ _) (one_i64 _) HK5.out ?_; intro w4 hown' hgrow; have HO4 : Hid (OwnI w4 w.heap.size (.slice (some ⟨w.heap.size, 0, none⟩) (k + 1) 5) (q ++ [bits .or .i64 (Y : Int) (2 ^ j)])) := Lib.hid (by rw [HO2.out] at hown'; refine OwnI.snoc ?_; rw [HQL.out]; exact hown'); have HB4 : Hid (Below w.heap.size w w4) := Lib.hid ((HB.out.alloc HB.out.size _).grown hgrow (by rw [World.size_alloc]; have := HB.out.size; omega) (fun k hk => by cases hk; exact Nat.le_refl _)); have HG4 : Hid (w1.grownBy w4 (some w.heap.size)) := Lib.hid (grown_trans9 HGR.out (grown_trans9 (grown_alloc9 w3 _ _) hgrow)); clear hown' hgrow)
      go_roundw
      case rel => exact ⟨k + 1, _, by omega, rfl, by go_num, Lib.hid HS.out.symm, HO4, HB4, HG4⟩
      case measure => simp [intOf]; omega
    · obtain rfl : k = M.length := by omega
      have HE : Hid (grwOne (E : Int) (Y : Int) 5 = q) := Lib.hid (by rw [HG.out, hq.out, List.take_length])
      clear hq
      go_wp2_with fail
      go_ret
      exact ⟨_, rfl, by rw [HE.out]; exact HO.out, HB.out⟩
end Go.Proofs.YtnbjcelfdppkcaaGreat
