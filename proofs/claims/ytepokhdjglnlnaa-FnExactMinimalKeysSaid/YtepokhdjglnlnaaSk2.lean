/- Texts of this claim, merged: Tabs2, Tabs3, Tabs4, Leaf, Bits. Conditions: as stated. -/
import Derived.Test.YtepokhdjglnlnaaSk1
import Derived.WalkSmall
import Derived.Test.YtepokhdjglnlnaaRows
import Derived.WalkKit
import Derived.ProofKit
import Derived.OpenShut
import Derived.ShutString
import Derived.BigQuiet
import Derived.Deep.QuietTactic
import Derived.Lib.Hide
import Derived.WalkSpells
import Derived.WalkLawsBesides
import Derived.Laws.BitsAllLaws
namespace Go.Proofs.Ytepokhdjglnlnaa
open Go.RowKit

/-- The number of cells of all rows. -/
def tot (ll : List (List Int)) : Nat := (ll.map List.length).sum
theorem take_succ_getD {α : Type} (l : List α) (d : α) (k : Nat) (h : k < l.length) : l.take (k + 1) = l.take k ++ [l.getD k d] := by
  rw [List.take_succ_eq_append_getElem h, List.getD_eq_getElem?_getD, List.getElem?_eq_getElem h]; rfl
theorem tot_succ {ll : List (List Int)} {k : Nat} (h : k < ll.length) : tot (ll.take (k + 1)) = tot (ll.take k) + (ll.getD k []).length := by
  rw [take_succ_getD ll [] k h]; simp [tot]
theorem tot_take (ll : List (List Int)) (k : Nat) : tot (ll.take k) ≤ tot ll := by
  have h : tot ll = tot (ll.take k) + tot (ll.drop k) := by
    unfold tot; rw [← List.sum_append, ← List.map_append, List.take_append_drop]
  omega
theorem tot_get {ll : List (List Int)} {k : Nat} (h : k < ll.length) : (ll.getD k []).length ≤ tot ll := by
  have h1 := tot_succ h
  have h2 := tot_take ll (k + 1)
  omega
/-- What is left of a budget. -/
def szD (left : Int) (n : Nat) : Int := if (n : Int) ≤ left then left - n else -1
theorem szInt_ok (v : Value) (l : List Int) (w : World) (hr : ReadI w v l) (left : Int) (h0 : (l.length : Int) ≤ left) (h1 : left ≤ 1048576) :
    Calls Try.prog 68 #[v, .int .i64 left] w fun e w' => e = .returned (.int .i64 (left - l.length)) ∧ w = w' := by
  obtain ⟨a, cap, rfl, -⟩ := hr
  go_enter Try.func68, Try.ntmps68
  go_wp2_with fail
  go_ret
  exact ⟨rfl, rfl⟩
theorem szInt_no (v : Value) (l : List Int) (w : World) (hr : ReadI w v l) (left : Int) (h0 : left < (l.length : Int)) (h1 : 0 ≤ left) (hl : l.length ≤ 9223372036854775807) :
    Calls Try.prog 68 #[v, .int .i64 left] w fun e w' => e = .returned (.int .i64 (-1)) ∧ w = w' := by
  obtain ⟨a, cap, rfl, -⟩ := hr
  go_enter Try.func68, Try.ntmps68
  go_wp2_with fail
  go_ret
  exact ⟨rfl, rfl⟩
/-- No row is longer than a slice may be. -/
def Short (ll : List (List Int)) : Prop := ll.length ≤ 9223372036854775807 ∧ ∀ i, i < ll.length → (ll.getD i []).length ≤ 9223372036854775807
set_option maxHeartbeats 800000 in
theorem szIntSS_any (v : Value) (ll : List (List Int)) (w : World) (hr : ReadSS w v ll) (hs : Short ll) (left : Int) (h0 : 0 ≤ left) (h1 : left ≤ 1048576) :
    Calls Try.prog 32 #[v, .int .i64 left] w fun e w' => e = .returned (.int .i64 (szD left (ll.length + tot ll))) ∧ w = w' := by
  obtain ⟨a, cap, rfl, hc⟩ := hr
  have HC := Lib.hid hc
  have HS := Lib.hid hs.2
  have hn := hs.1
  clear hc hs
  by_cases hle : (ll.length : Int) ≤ left
  · go_enter Try.func32, Try.ntmps32
    go_wp2_with fail
    go_loop [1, 5] (fun lv iv => ∃ (k : Nat) (r : Int), k ≤ ll.length ∧ iv = .int .i64 (k : Int) ∧ lv = .int .i64 r ∧ Hid (r = left - ll.length - tot (ll.take k)) ∧ 0 ≤ r ∧ r ≤ left) (fun _ iv => ll.length - (intOf iv).toNat)
    case atStart => exact ⟨0, _, by omega, rfl, rfl, Lib.hid (by simp [tot]), by omega, by omega⟩
    case round =>
      obtain ⟨k, r, hk, rfl, rfl, hR, hr0, hr1⟩ := hrel
      by_cases hlt : k < ll.length
      · obtain ⟨x, u, rfl, hx, hru⟩ := HC.out k hlt
        have hlen := HS.out k hlt
        have z0 : (0 : Int) ≤ (k : Int) := by omega
        have z1 : (k : Int) < (ll.length : Int) := by omega
        by_cases hin : ((ll.getD k []).length : Int) ≤ r
        · have HK := Lib.hid (szInt_ok u _ w hru r hin (by omega))
          have HT := Lib.hid (tot_succ hlt)
          obtain ⟨L, hL⟩ : ∃ L : Nat, (ll.getD k []).length = L := ⟨_, rfl⟩
          rw [hL] at HK HT hin
          clear hlen hru hL
          go_wp2_with fail
          refine HK.out.mono ?_
          rintro e w' ⟨rfl, rfl⟩
          go_wp2_with fail
          go_round
          case rel => exact ⟨k + 1, r - L, by omega, by go_num, rfl, Lib.hid (by rw [HT.out, hR.out]; omega), by omega, by omega⟩
          case measure => simp [intOf]; omega
        · have HK := Lib.hid (szInt_no u _ w hru r (by omega) hr0 hlen)
          have HE : Hid (szD left (ll.length + tot ll) = -1) := Lib.hid (by
            have e1 := tot_succ hlt
            have e2 := tot_take ll (k + 1)
            have e3 := hR.out
            unfold szD; rw [if_neg (by omega)])
          clear hlen hru hin
          go_wp2_with fail
          refine HK.out.mono ?_
          rintro e w' ⟨rfl, rfl⟩
          go_wp2_with fail
          go_ret
          exact ⟨ret_int HE.out.symm, rfl⟩
      · obtain rfl : k = ll.length := by omega
        go_wp2_with fail
        go_ret
        exact ⟨ret_int (by have := hR.out; rw [List.take_length] at this; unfold szD; rw [if_pos (by omega)]; omega), rfl⟩
  · have hle' : left < (ll.length : Int) := by omega
    have HE : Hid (szD left (ll.length + tot ll) = -1) := Lib.hid (by unfold szD; rw [if_neg (by omega)])
    go_enter Try.func32, Try.ntmps32
    go_wp2_with fail
    go_ret
    exact ⟨ret_int HE.out.symm, rfl⟩
theorem bcell {W w1 : World} (hb : Below W.heap.size W w1) : (∀ b o, b < W.heap.size → w1.cell? ⟨b, o, none⟩ = W.cell? ⟨b, o, none⟩) ∧ (∀ b o, b < W.heap.size → w1.frozen? ⟨b, o, none⟩ = W.frozen? ⟨b, o, none⟩) :=
  ⟨fun b o h => hb.cell (p := ⟨b, o, none⟩) h, fun b o h => hb.frozen (p := ⟨b, o, none⟩) h⟩
/-- The cells of a table. -/
def szOf (ll : List (List Int)) : Nat := ll.length + tot ll
theorem szTable_any (c : Int) (v : Value) (ll : List (List Int)) (w : World) (hr : ReadSS w v ll) (hs : Short ll) (left : Int) (h0 : 0 ≤ left) (h1 : left ≤ 1048576) :
    Calls Try.prog 9 #[.agg #[.int .i64 c, v], .int .i64 left] w fun e w' => e = .returned (.int .i64 (szD left (szOf ll))) ∧ Below w.heap.size w w' := by
  have HK := Lib.hid (fun (w' : World) (hb : Below w.heap.size w w') => szIntSS_any v ll w' (hr.kept hb) hs left h0 h1)
  obtain ⟨a, cap, rfl, -⟩ := hr
  clear hs
  by_cases hle : ((szOf ll : Nat) : Int) ≤ left
  · have hv : szD left (ll.length + tot ll) = left - szOf ll := by unfold szD szOf at *; rw [if_pos hle]
    have he : szD left (szOf ll) = left - szOf ll := by unfold szD; rw [if_pos hle]
    rw [hv] at HK
    rw [he]
    clear hv he
    go_enter Try.func9, Try.ntmps9
    go_wp2_with fail
    refine (HK.out _ ((Below.refl _ _).alloc (Nat.le_refl _) _)).mono ?_
    rintro e w' ⟨rfl, rfl⟩
    go_wp2_with fail
    go_ret
    exact ⟨rfl, (Below.refl _ _).alloc (Nat.le_refl _) _⟩
  · have hv : szD left (ll.length + tot ll) = -1 := by unfold szD szOf at *; rw [if_neg hle]
    have he : szD left (szOf ll) = -1 := by unfold szD; rw [if_neg hle]
    rw [hv] at HK
    rw [he]
    clear hv he
    go_enter Try.func9, Try.ntmps9
    go_wp2_with fail
    refine (HK.out _ ((Below.refl _ _).alloc (Nat.le_refl _) _)).mono ?_
    rintro e w' ⟨rfl, rfl⟩
    go_wp2_with fail
    go_ret
    exact ⟨rfl, (Below.refl _ _).alloc (Nat.le_refl _) _⟩

/-! ### Equality -/
theorem take_eq_all {ll ll' : List (List Int)} {n : Nat} (h : ll.take n = ll'.take n) (h1 : ll.length ≤ n) (h2 : ll'.length ≤ n) : ll = ll' := by
  rwa [List.take_of_length_le h1, List.take_of_length_le h2] at h
set_option maxHeartbeats 800000 in
theorem eqIntSS_any (v v' : Value) (ll ll' : List (List Int)) (w : World) (hr : ReadSS w v ll) (hr' : ReadSS w v' ll') (hl : ll.length ≤ 1000000000) (ht : ∀ i, i < ll.length → (ll.getD i []).length ≤ 1000000000) :
    Calls Try.prog 42 #[v, v'] w fun e w' => e = .returned (.bool (decide (ll = ll'))) ∧ Below w.heap.size w w' := by
  obtain ⟨a, cap, rfl, ha⟩ := hr
  obtain ⟨a', cap', rfl, ha'⟩ := hr'
  have HA := Lib.hid ha
  have HA' := Lib.hid ha'
  have HT := Lib.hid ht
  clear ha ha' ht
  by_cases hlen : ll.length = ll'.length
  · have hne : ((ll.length : Int) != (ll'.length : Int)) = false := by simp [hlen]
    have HL := Lib.hid hlen
    clear hlen
    go_enter Try.func42, Try.ntmps42
    go_wp2_with fail
    go_loopw [5] (fun iv wr => ∃ (k : Nat), k ≤ ll.length ∧ iv = .int .i64 (k : Int) ∧ Hid (ll.take k = ll'.take k) ∧ Below w.heap.size w wr) (fun iv _ => ll.length - (intOf iv).toNat)
    case atStart => exact ⟨0, by omega, rfl, Lib.hid rfl, Below.refl _ _⟩
    case round =>
      obtain ⟨k, hk, rfl, hsame, hb⟩ := hrel
      by_cases hlt : k < ll.length
      · have hlt' : k < ll'.length := by have := HL.out; omega
        obtain ⟨x, u, rfl, hx, hu⟩ := HA.out k hlt
        obtain ⟨x', u', rfl, hx', hu'⟩ := HA'.out k hlt'
        have HQ := Lib.hid (fun n => eqIntQ_any u u' _ _ (wr.drewN n) ((hu.kept hb).kept (below_drewN (Below.refl _ _) n)) ((hu'.kept hb).kept (below_drewN (Below.refl _ _) n)) (HT.out k hlt))
        have hy := (hb.cell (World.block_lt_of_cell? w _ hx)).trans hx
        have hy' := (hb.cell (World.block_lt_of_cell? w _ hx')).trans hx'
        have z0 : (0 : Int) ≤ (k : Int) := by omega
        have z1 : (k : Int) < (ll.length : Int) := by omega
        have z2 : (k : Int) < (ll'.length : Int) := by omega
        clear hx hx' hu hu'
        by_cases he : ll.getD k [] = ll'.getD k []
        · have hq : eqB (ll.getD k []) (ll'.getD k []) = true := decide_eq_true he
          rw [hq] at HQ
          have HE := Lib.hid he
          clear he hq
          go_wp2_with fail
          go_quiet ((go_at_call 23; exact Calls.quiet_of (HQ.out _)))
          go_wp2_with fail
          go_roundw
          case rel => exact ⟨k + 1, by omega, by go_num, Lib.hid (by rw [take_succ_getD ll [] k hlt, take_succ_getD ll' [] k hlt', hsame.out, HE.out]), below_drewN hb _⟩
          case measure => simp [intOf]; omega
        · have hq : eqB (ll.getD k []) (ll'.getD k []) = false := decide_eq_false he
          rw [hq] at HQ
          have HE := Lib.hid he
          clear he hq
          go_wp2_with fail
          go_quiet ((go_at_call 23; exact Calls.quiet_of (HQ.out _)))
          go_wp2_with fail
          go_ret
          exact ⟨ret_b (by rw [decide_eq_false]; intro e; apply HE.out; rw [e]), below_drewN hb _⟩
      · go_wp2_with fail
        go_ret
        exact ⟨ret_b (by rw [decide_eq_true]; exact take_eq_all hsame.out (by omega) (by have := HL.out; omega)), hb⟩
  · have hne : ((ll.length : Int) != (ll'.length : Int)) = true := by simp; omega
    have HL := Lib.hid hlen
    clear hlen
    go_enter Try.func42, Try.ntmps42
    go_wp2_with fail
    go_ret
    exact ⟨ret_b (by rw [decide_eq_false]; intro e; exact HL.out (by rw [e])), Below.refl _ _⟩
/-- Two tables are equal. -/
def eqTb (c c' : Int) (ll ll' : List (List Int)) : Bool := decide (c = c') && decide (ll = ll')
theorem eqTable_any (c c' : Int) (v v' : Value) (ll ll' : List (List Int)) (w : World) (hr : ReadSS w v ll) (hr' : ReadSS w v' ll') (hl : ll.length ≤ 1000000000) (ht : ∀ i, i < ll.length → (ll.getD i []).length ≤ 1000000000) :
    Calls Try.prog 14 #[.agg #[.int .i64 c, v], .agg #[.int .i64 c', v']] w fun e w' => e = .returned (.bool (eqTb c c' ll ll')) ∧ Below w.heap.size w w' := by
  have HK := Lib.hid (fun (w' : World) (hb : Below w.heap.size w w') => eqIntSS_any v v' ll ll' w' (hr.kept hb) (hr'.kept hb) hl ht)
  obtain ⟨a, cap, rfl, -⟩ := hr
  obtain ⟨a', cap', rfl, -⟩ := hr'
  have hb2 := (((Below.refl w.heap.size w).alloc (Nat.le_refl _) (.cells #[.int .i64 c, .slice a ll.length cap] 28)).alloc (by simp) (.cells #[.int .i64 c', .slice a' ll'.length cap'] 28))
  by_cases hc : c = c'
  · have hn : (c != c') = false := by simp [hc]
    have hn2 : (c == c') = true := by simp [hc]
    have HE := Lib.hid hc
    clear hc ht
    by_cases he : ll = ll'
    · rw [decide_eq_true he] at HK
      have HF := Lib.hid he
      clear he
      go_enter Try.func14, Try.ntmps14
      go_wp2_with fail
      refine (HK.out _ hb2).mono ?_
      rintro e w' ⟨rfl, hb3⟩
      go_wp2_with fail
      go_ret
      exact ⟨ret_b (by unfold eqTb; rw [decide_eq_true HE.out, decide_eq_true HF.out]; rfl), hb2.trans (hb3.mono hb2.size)⟩
    · rw [decide_eq_false he] at HK
      have HF := Lib.hid he
      clear he
      go_enter Try.func14, Try.ntmps14
      go_wp2_with fail
      refine (HK.out _ hb2).mono ?_
      rintro e w' ⟨rfl, hb3⟩
      go_wp2_with fail
      go_ret
      exact ⟨ret_b (by unfold eqTb; rw [decide_eq_false HF.out]; simp), hb2.trans (hb3.mono hb2.size)⟩
  · have hn : (c != c') = true := by simpa using hc
    have HE := Lib.hid hc
    clear hc ht
    go_enter Try.func14, Try.ntmps14
    go_wp2_with fail
    go_ret
    exact ⟨ret_b (by unfold eqTb; rw [decide_eq_false HE.out]; rfl), hb2⟩
theorem eqTb_self (c : Int) (ll : List (List Int)) : eqTb c c ll ll = true := by unfold eqTb; simp
theorem szD_ok {left : Int} {n : Nat} (h : (n : Int) ≤ left) : szD left n = left - n := by unfold szD; rw [if_pos h]
theorem szD_no {left : Int} {n : Nat} (h : ¬ (n : Int) ≤ left) : szD left n = -1 := by unfold szD; rw [if_neg h]
theorem szOf_bd {ll : List (List Int)} {m : Nat} (h : szOf ll ≤ m) : ll.length ≤ m ∧ ∀ i, i < ll.length → (ll.getD i []).length ≤ m := by
  unfold szOf at h
  exact ⟨by omega, fun i hi => by have := tot_get hi; omega⟩
end Go.Proofs.Ytepokhdjglnlnaa
namespace Go.Proofs.Ytepokhdjglnlnaa
open Go.RowKit

theorem info3j : (Try.prog.info? 3).map (fun i => (i.zero, i.size, i.bytes)) = some (some (.int .i64 0), 1, 8) := by kernel_rfl
theorem infoSj : (Try.prog.info? 41).map (fun i => (i.zero, i.size, i.bytes)) = some (some (.slice none 0 0), 1, 24) := by kernel_rfl
theorem OwnI.full {w : World} {B : Nat} {v : Value} {n : Nat} (h : w.ownsRow B 3 1 v n (madeCells (Value.cells (.int .i64 0)) (n * 1)).toList) : OwnI w B v (List.replicate n 0) := by
  unfold OwnI
  have e : (madeCells (Value.cells (.int .i64 0)) (n * 1)).toList = intsV (List.replicate n 0) := by
    rw [show Value.cells (.int .i64 0) = #[.int .i64 0] from rfl, toList_madeCells_one]; simp [intsV]
  rw [e] at h; rw [List.length_replicate]; exact h
theorem copy_step (l : List Int) (k : Nat) (h : k < l.length) : (l.take k ++ List.replicate (l.length - k) 0).set k l[k] = l.take (k + 1) ++ List.replicate (l.length - (k + 1)) 0 := by
  rw [List.set_append, if_neg (by simp; omega), List.take_succ_eq_append_getElem h, List.append_assoc]
  congr 1
  rw [show k - (l.take k).length = 0 by simp; omega, show l.length - k = (l.length - (k + 1)) + 1 by omega, List.replicate_succ]
  rfl
/-- A row of ints in memory of the call's own, with its blocks' bounds. -/
def RetJ (l : List Int) (w : World) (e : Ending) (w' : World) : Prop := ∃ v, e = .returned v ∧ OwnI w' w.heap.size v l ∧ Below w.heap.size w w'
set_option maxHeartbeats 800000 in
theorem toInt_any (v : Value) (l : List Int) (w : World) (hr : ReadI w v l) (hl : l.length ≤ 1048576) :
    Calls Try.prog 72 #[v] w (RetJ l w) := by
  obtain ⟨i0, hi, hz0, hz1, hz2⟩ := info_parts info3j
  have HI : Hid (_ ∧ _ ∧ _ ∧ _) := Lib.hid ⟨hi, hz0, hz1, hz2⟩
  clear hi hz0 hz1 hz2
  obtain ⟨a, cap, rfl, ha⟩ := hr
  have HA := Lib.hid ha
  clear ha
  go_enter Try.func72, Try.ntmps72
  go_wp2_with (at_make; refine wpList_make_full _ rfl _ _ 41 rfl w.heap.size 3 i0 (.int .i64 0) 1 Try.underlying41 HI.out.1 HI.out.2.1 HI.out.2.2.1 .i64 .i64 _ _ l.length rfl rfl rfl rfl (by rw [HI.out.2.2.2]; omega) (by unfold maxLen; omega) (Nat.le_refl _) ?_; intro w0 hown0 hgrow0)
  have hown := OwnI.full hown0
  have hb0 := (Below.refl w.heap.size w).grown hgrow0 (Nat.le_refl _) (by simp)
  clear hown0 hgrow0
  go_loopw [4] (fun iv wr => ∃ k : Nat, k ≤ l.length ∧ iv = .int .i64 (k : Int) ∧ OwnI wr w.heap.size (.slice (some ⟨w.heap.size, 0, none⟩) l.length l.length) (l.take k ++ List.replicate (l.length - k) 0) ∧ Below w.heap.size w wr) (fun iv _ => l.length - (intOf iv).toNat)
  case atStart => exact ⟨0, by omega, rfl, by simpa using hown, hb0⟩
  case round =>
    obtain ⟨k, hk, rfl, ho, hb⟩ := hrel
    by_cases hlt : k < l.length
    · obtain ⟨x, rfl, hx⟩ := HA.out k hlt
      have hy := (hb.cell (World.block_lt_of_cell? w _ hx)).trans hx
      have hcell := ho.cell k (by simp; omega)
      have hfz := ho.frozen k
      have ho2 := (ho.store k l[k]).1
      rw [copy_step l k hlt] at ho2
      have HO := Lib.hid ho2
      have z0 : (0 : Int) ≤ (k : Int) := by omega
      have z1 : (k : Int) < (l.length : Int) := by omega
      clear hx ho2
      go_wp2_with fail
      go_roundw
      case rel => exact ⟨k + 1, by omega, by go_num, HO.out, hb.setCell (Nat.le_refl _) _⟩
      case measure => simp [intOf]; omega
    · obtain rfl : k = l.length := by omega
      go_wp2_with fail
      go_ret
      refine ⟨_, rfl, ?_, hb⟩
      simpa using ho

theorem copy_stepL (l : List (List Int)) (k : Nat) (h : k < l.length) : (l.take k ++ List.replicate (l.length - k) []).set k (l.getD k []) = l.take (k + 1) ++ List.replicate (l.length - (k + 1)) [] := by
  rw [List.set_append, if_neg (by simp; omega), take_succ_getD l [] k h, List.append_assoc]
  congr 1
  rw [show k - (l.take k).length = 0 by simp; omega, show l.length - k = (l.length - (k + 1)) + 1 by omega, List.replicate_succ]
  rfl
set_option maxHeartbeats 800000 in
theorem toIntSS_any (v : Value) (ll : List (List Int)) (w : World) (hr : ReadSS w v ll) (hl : ll.length ≤ 1048576) (ht : ∀ i, i < ll.length → (ll.getD i []).length ≤ 1048576) :
    Calls Try.prog 36 #[v] w (RetSS ll w) := by
  obtain ⟨i0, hi, hz0, hz1, hz2⟩ := info_parts infoSj
  have HI : Hid (_ ∧ _ ∧ _ ∧ _) := Lib.hid ⟨hi, hz0, hz1, hz2⟩
  clear hi hz0 hz1 hz2
  obtain ⟨a, cap, rfl, ha⟩ := hr
  have HA := Lib.hid ha
  have HT := Lib.hid ht
  clear ha ht
  go_enter Try.func36, Try.ntmps36
  go_wp2_with (at_make; refine wpList_make_full _ rfl _ _ 22 rfl w.heap.size 41 i0 (.slice none 0 0) 1 Try.underlying22 HI.out.1 HI.out.2.1 HI.out.2.2.1 .i64 .i64 _ _ ll.length rfl rfl rfl rfl (by rw [HI.out.2.2.2]; omega) (by unfold maxLen; omega) (Nat.le_refl _) ?_; intro w0 hown0 hgrow0)
  have hown := OwnSS.full (C := w0.heap.size) hown0 (fun g hg => (World.ownsRow.lt hown0 g hg).2)
  have hb0 := (Below.refl w.heap.size w).grown hgrow0 (Nat.le_refl _) (by simp)
  clear hown0 hgrow0
  go_loopw [4] (fun iv wr => ∃ k : Nat, k ≤ ll.length ∧ iv = .int .i64 (k : Int) ∧ OwnSS wr w.heap.size wr.heap.size (.slice (some ⟨w.heap.size, 0, none⟩) ll.length ll.length) (ll.take k ++ List.replicate (ll.length - k) []) ∧ Below w.heap.size w wr) (fun iv _ => ll.length - (intOf iv).toNat)
  case atStart => exact ⟨0, by omega, rfl, by simpa using hown, hb0⟩
  case round =>
    obtain ⟨k, hk, rfl, ho, hb⟩ := hrel
    by_cases hlt : k < ll.length
    · obtain ⟨x, u, rfl, hx, hu⟩ := HA.out k hlt
      have hy := (hb.cell (World.block_lt_of_cell? w _ hx)).trans hx
      have z0 : (0 : Int) ≤ (k : Int) := by omega
      have z1 : (k : Int) < (ll.length : Int) := by omega
      have HK := Lib.hid (toInt_any u _ wr (hu.kept hb) (HT.out k hlt))
      have HS := Lib.hid (copy_stepL ll k hlt)
      obtain ⟨r, hrr⟩ : ∃ r, ll.getD k [] = r := ⟨_, rfl⟩
      rw [hrr] at HK HS
      clear hx hu hrr
      go_wp2_with fail
      refine HK.out.mono ?_
      rintro e w1 ⟨u1, rfl, ou, hb1⟩
      have ho1 := ho.same (Below.keeps hb1 (Nat.le_refl _))
      obtain ⟨⟨u0, hcell, -⟩, hfz⟩ := ho1.outer k (by simp; omega)
      have ho2 := ho1.store (C' := w1.heap.size) (k := k) (by simp; omega) (ou.base hb.size) (fun q hq => ⟨(ou.lt q hq).1, (ou.lt q hq).2⟩) hb1.size
      rw [HS.out] at ho2
      have HO := Lib.hid ho2
      have hb2 := hb.trans (hb1.mono hb.size)
      have hb3 := hb2.setCell (p := ⟨w.heap.size, k, none⟩) (Nat.le_refl _) u1
      obtain ⟨a1, cap1, rfl, -⟩ := ou.read
      clear ho ho1 ho2 ou hb1
      go_wp2_with fail
      go_roundw
      case rel => exact ⟨k + 1, by omega, by go_num, by have := HO.out; simpa using this, hb3⟩
      case measure => simp [intOf]; omega
    · obtain rfl : k = ll.length := by omega
      go_wp2_with fail
      go_ret
      refine ⟨_, rfl, ?_, hb⟩
      simpa using ho
theorem toTable_any (c : Int) (v : Value) (ll : List (List Int)) (w : World) (hr : ReadSS w v ll) (hl : ll.length ≤ 1048576) (ht : ∀ i, i < ll.length → (ll.getD i []).length ≤ 1048576) :
    Calls Try.prog 11 #[.agg #[.int .i64 c, v]] w (RetT c ll w) := by
  have HK := Lib.hid (fun (w' : World) (hb : Below w.heap.size w w') => toIntSS_any v ll w' (hr.kept hb) hl ht)
  obtain ⟨a, cap, rfl, -⟩ := hr
  clear ht
  have hb2 := (((Below.refl w.heap.size w).alloc (Nat.le_refl _) (.cells #[.int .i64 c, .slice a ll.length cap] 24)).alloc (by simp) (.cells #[.int .i64 0, .slice none 0 0] 28)).alloc (by simp; omega) (.cells #[.int .i64 c, .slice none 0 0] 28)
  go_enter Try.func11, Try.ntmps11
  go_wp2_with fail
  refine (HK.out _ hb2).mono ?_
  rintro e w1 ⟨v1, rfl, o1, hb1⟩
  obtain ⟨hc, hf⟩ := bcell hb1
  obtain ⟨a1, cap1, rfl, -⟩ := o1.read
  go_wp2_with fail
  refine bodyPost_ret (v := .agg #[.int .i64 c, .slice a1 ll.length cap1]) (by simp [results, Try.results11, go_sem, hc]) rfl ⟨_, rfl, ?_, ?_⟩
  · exact (o1.same ((((Same.refl _ _ _).setCell (.inl (by simp)) _).setCell (.inl (by simp)) _).setCell (.inl (by simp)) _)).base (by simp; omega) (by simp)
  · exact (((hb2.trans (hb1.mono hb2.size)).setCell (by simp; omega) _).setCell (by simp) _).setCell (by simp) _
end Go.Proofs.Ytepokhdjglnlnaa
namespace Go.Proofs.Ytepokhdjglnlnaa
open Go.RowKit

/-- What holds at row k of an owned slice of rows, and what becomes of the whole when that row alone is written. -/
theorem OwnSS.at {w : World} {B C : Nat} {v : Value} {ll : List (List Int)} (h : OwnSS w B C v ll) {k : Nat} (hk : k < ll.length) :
    ∃ g cap u, v = .slice (some ⟨g, 0, none⟩) ll.length cap ∧ w.cell? ⟨g, k, none⟩ = some u ∧ OwnI w B u (ll.getD k []) ∧ (∀ q, u.ownBlock = some q → q < C) ∧
      ∀ w' l', OwnI w' B u l' → w.grownBy w' u.ownBlock → OwnSS w' B C v (ll.set k l') := by
  obtain ⟨V, o1, o2, o3, o4⟩ := h
  rcases ownsRow_shape o1 with ⟨rfl, hn⟩ | ⟨g, cap, rfl, -, -, -⟩
  · omega
  · have hap : ∀ i, i < ll.length → (V i).ownBlock ≠ some g := fun i hi => row_apart o1 (o3 i hi).1 g rfl
    refine ⟨g, cap, V k, rfl, ?_, (o3 k hk).1, (o3 k hk).2, fun w' l' h1 h2 => ⟨V, ?_, o2, fun i hi => ?_, ?_⟩⟩
    · rw [World.ownsRow.cellAt o1 k (by omega)]; simp [hk]
    · rw [List.length_set]
      exact World.ownsRow.kept o1 h2 (.inr (fun e => hap k hk (by rw [← e]; rfl)))
    · rw [List.length_set] at hi
      rw [getD_set _ _ _ _ _ hk]
      by_cases hik : i = k
      · subst hik; rw [if_pos rfl]; exact ⟨h1, (o3 i hi).2⟩
      · rw [if_neg hik]
        refine ⟨(o3 i hi).1.keptBy h2 (fun q hq hq2 => ?_), (o3 i hi).2⟩
        rcases Nat.lt_or_gt_of_ne hik with hlt | hgt
        · exact o4 i k hlt hk q hq2 hq
        · exact o4 k i hgt hi q hq hq2
    · rw [List.length_set]; exact o4
/-- The rows ll, the first i of them written over with k, k + 1, and so on. -/
def mk (k : Int) (ll : List (List Int)) (i : Nat) : List (List Int) := (List.range ll.length).map fun j => if j < i then upFrom (k + (tot (ll.take j) : Int)) (ll.getD j []).length else ll.getD j []
theorem mk_len (k : Int) (ll : List (List Int)) (i : Nat) : (mk k ll i).length = ll.length := by simp [mk]
theorem mk_get (k : Int) (ll : List (List Int)) (i j : Nat) (hj : j < ll.length) : (mk k ll i).getD j [] = if j < i then upFrom (k + (tot (ll.take j) : Int)) (ll.getD j []).length else ll.getD j [] := by
  rw [List.getD_eq_getElem?_getD, List.getElem?_eq_getElem (by rw [mk_len]; exact hj)]; simp [mk]
theorem ext_getD {a b : List (List Int)} (hl : a.length = b.length) (h : ∀ j, j < a.length → a.getD j [] = b.getD j []) : a = b := by
  apply List.ext_getElem hl
  intro j h1 h2
  have := h j h1
  rwa [List.getD_eq_getElem?_getD, List.getD_eq_getElem?_getD, List.getElem?_eq_getElem h1, List.getElem?_eq_getElem h2] at this
theorem mk_zero (k : Int) (ll : List (List Int)) : mk k ll 0 = ll :=
  ext_getD (mk_len _ _ _) fun j hj => by rw [mk_len] at hj; rw [mk_get _ _ _ _ hj, if_neg (by omega)]
theorem mk_set (k : Int) (ll : List (List Int)) (i : Nat) (hi : i < ll.length) : (mk k ll i).set i (upFrom (k + (tot (ll.take i) : Int)) (ll.getD i []).length) = mk k ll (i + 1) := by
  refine ext_getD (by rw [List.length_set, mk_len, mk_len]) fun j hj => ?_
  rw [List.length_set, mk_len] at hj
  rw [getD_set _ _ _ _ _ (by rw [mk_len]; exact hi), mk_get _ _ _ _ hj, mk_get _ _ _ _ hj]
  by_cases h : j = i
  · subst h; rw [if_pos rfl, if_pos (by omega)]
  · rw [if_neg h]
    by_cases h2 : j < i
    · rw [if_pos h2, if_pos (by omega)]
    · rw [if_neg h2, if_neg (by omega)]
/-- The rows written over. -/
def upRows (k : Int) (ll : List (List Int)) : List (List Int) := mk k ll ll.length
theorem upRows_len (k : Int) (ll : List (List Int)) : (upRows k ll).length = ll.length := mk_len _ _ _
theorem upRows_get (k : Int) (ll : List (List Int)) (j : Nat) (hj : j < ll.length) : (upRows k ll).getD j [] = upFrom (k + (tot (ll.take j) : Int)) (ll.getD j []).length := by
  unfold upRows; rw [mk_get _ _ _ _ hj, if_pos hj]
def MarkSS (k : Int) (ll : List (List Int)) (B C : Nat) (v : Value) (w : World) (e : Ending) (w' : World) : Prop := e = .returned (.int .i64 (k + (tot ll : Int))) ∧ OwnSS w' B C v (upRows k ll) ∧ Mid B C w w'
set_option maxHeartbeats 800000 in
theorem markIntSS_any (v : Value) (ll : List (List Int)) (k : Int) (B C : Nat) (w : World) (ho : OwnSS w B C v ll) (hl : ll.length ≤ 1048576) (ht : tot ll ≤ 1048576) (hk0 : 0 ≤ k) (hk1 : k ≤ 1048576) :
    Calls Try.prog 43 #[v, .int .i64 k] w (MarkSS k ll B C v w) := by
  obtain ⟨a, cap, rfl, -⟩ := ho.read
  go_enter Try.func43, Try.ntmps43
  go_wp2_with fail
  go_loopw [1, 5] (fun kv iv wr => ∃ (i : Nat) (r : Int), i ≤ ll.length ∧ kv = .int .i64 r ∧ iv = .int .i64 (i : Int) ∧ Hid (r = k + (tot (ll.take i) : Int)) ∧ OwnSS wr B C (.slice a ll.length cap) (mk k ll i) ∧ Mid B C w wr) (fun _ iv _ => ll.length - (intOf iv).toNat)
  case atStart => exact ⟨0, k, by omega, rfl, rfl, Lib.hid (by simp [tot]), by rw [mk_zero]; exact ho, Mid.refl _ _ _⟩
  case round =>
    obtain ⟨i, r, hi, rfl, rfl, hr, ho, hm⟩ := hrel
    by_cases hlt : i < ll.length
    · have hi' : i < (mk k ll i).length := by rw [mk_len]; exact hlt
      obtain ⟨g, cap', u, hv, hcell, ou, huC, hnext⟩ := ho.at hi'
      simp at hv
      obtain ⟨rfl, -, -⟩ := hv
      rw [mk_get _ _ _ _ hlt, if_neg (by omega)] at ou
      have HN := Lib.hid hnext
      have HT := Lib.hid (tot_succ hlt)
      have b1 := tot_take ll i
      have b2 := tot_get hlt
      have b3 := tot_take ll (i + 1)
      have hrb : 0 ≤ r ∧ r ≤ 2097152 := by have := hr.out; omega
      have HK := Lib.hid (markInt_any u _ r B wr ou (by omega) (by omega) (by omega))
      have z0 : (0 : Int) ≤ (i : Int) := by omega
      have z1 : (i : Int) < (ll.length : Int) := by omega
      obtain ⟨row, hrow⟩ : ∃ row, ll.getD i [] = row := ⟨_, rfl⟩
      have HS := Lib.hid (mk_set k ll i hlt)
      rw [hrow] at HK HT HS b2
      clear hnext ou hrow hi'
      go_wp2_with fail
      refine HK.out.mono ?_
      rintro e w1 ⟨rfl, ou1, hg1⟩
      have ho2 := HN.out w1 _ ou1 hg1
      rw [← hr.out] at HS
      rw [HS.out] at ho2
      have hm2 := hm.trans (Mid.ofGrown hg1 (fun q hq => ⟨(ou1.lt q hq).1, huC q hq⟩))
      go_wp2_with fail
      go_roundw
      case rel => exact ⟨i + 1, r + row.length, by omega, rfl, by go_num, Lib.hid (by rw [HT.out, hr.out]; omega), ho2, hm2⟩
      case measure => simp [intOf]; omega
    · obtain rfl : i = ll.length := by omega
      go_wp2_with fail
      go_ret
      exact ⟨ret_int (by rw [hr.out, List.take_length]), ho, hm⟩
def MarkT (k : Int) (ll : List (List Int)) (B C : Nat) (v : Value) (w : World) (e : Ending) (w' : World) : Prop := e = .returned (.int .i64 (k + (tot ll : Int))) ∧ OwnSS w' B C v (upRows k ll) ∧ Mid B C w w'
theorem markTable_any (c : Int) (v : Value) (ll : List (List Int)) (k : Int) (B C : Nat) (w : World) (ho : OwnSS w B C v ll) (hC : C ≤ w.heap.size) (hl : ll.length ≤ 1048576) (ht : tot ll ≤ 1048576) (hk0 : 0 ≤ k) (hk1 : k ≤ 1048576) :
    Calls Try.prog 15 #[.agg #[.int .i64 c, v], .int .i64 k] w (MarkT k ll B C v w) := by
  have HK := Lib.hid (fun (w' : World) (ho : OwnSS w' B C v ll) => markIntSS_any v ll k B C w' ho hl ht hk0 hk1)
  obtain ⟨a, cap, rfl, -⟩ := ho.read
  have ho2 := ho.same (w' := w.alloc (.cells #[.int .i64 c, .slice a ll.length cap] 28)) (fun q _ hq => Below.heap_alloc _ _ _ (by omega))
  have HM := Lib.hid ((Mid.ofBelow ((Below.refl w.heap.size w).alloc (Nat.le_refl _) (.cells #[.int .i64 c, .slice a ll.length cap] 28))) : Mid B C w _)
  go_enter Try.func15, Try.ntmps15
  go_wp2_with fail
  refine (HK.out _ ho2).mono ?_
  rintro e w1 ⟨rfl, ho3, hm⟩
  go_wp2_with fail
  go_ret
  exact ⟨rfl, ho3, HM.out.trans hm⟩
/-! ### Rows of ints with their bounds -/
def OwnIR (w : World) (B C : Nat) (v : Value) (l : List Int) : Prop := OwnI w B v l ∧ ∀ g, v.ownBlock = some g → g < C
theorem OwnI.range {w : World} {B : Nat} {v : Value} {l : List Int} (h : OwnI w B v l) : OwnIR w B w.heap.size v l := ⟨h, fun g hg => (h.lt g hg).2⟩
theorem OwnIR.same {w w' : World} {B C : Nat} {v : Value} {l : List Int} (h : OwnIR w B C v l) (hs : Same B C w w') : OwnIR w' B C v l := ⟨h.1.same fun g hg => hs g (h.1.lt g hg).1 (h.2 g hg), h.2⟩
theorem OwnIR.read {w : World} {B C : Nat} {v : Value} {l : List Int} (h : OwnIR w B C v l) : ReadI w v l := h.1.read
def MarkI (k : Int) (l : List Int) (B C : Nat) (v : Value) (w : World) (e : Ending) (w' : World) : Prop := e = .returned (.int .i64 (k + (l.length : Int))) ∧ OwnIR w' B C v (upFrom k l.length) ∧ Mid B C w w'
theorem markIntR_any (v : Value) (l : List Int) (k : Int) (B C : Nat) (w : World) (ho : OwnIR w B C v l) (hl : l.length ≤ 1000000000) (hk0 : -1000000000 ≤ k) (hk1 : k ≤ 1000000000) :
    Calls Try.prog 24 #[v, .int .i64 k] w (MarkI k l B C v w) :=
  (markInt_any v l k B w ho.1 hl hk0 hk1).mono fun _ _ ⟨a, b, c⟩ => ⟨a, ⟨b, ho.2⟩, Mid.ofGrown c fun g hg => ⟨(ho.1.lt g hg).1, ho.2 g hg⟩⟩
theorem eqIntR_any (v v' : Value) (l : List Int) (w : World) (hr : ReadI w v l) (hr' : ReadI w v' l) (hl : l.length ≤ 1000000000) :
    Calls Try.prog 23 #[v, v'] w fun e w' => e = .returned (.bool true) ∧ Below w.heap.size w w' :=
  (eqInt_any v v' l l w hr hr' hl).mono fun _ _ ⟨a, b⟩ => ⟨by rw [a]; unfold eqB; simp, b⟩
theorem heldIntR_any (v : Value) (n : Nat) (k : Int) (w : World) (hr : ReadI w v (upFrom k n)) (hl : n ≤ 1000000000) (hk0 : -1000000000 ≤ k) (hk1 : k ≤ 1000000000) :
    Calls Try.prog 25 #[v, .int .i64 k] w fun e w' => e = .returned (.int .i64 (k + (n : Int))) ∧ Below w.heap.size w w' :=
  (heldInt_any v n k w hr hl hk0 hk1).mono fun _ w' ⟨a, b⟩ => ⟨a, by rw [← b]; exact Below.refl _ _⟩
end Go.Proofs.Ytepokhdjglnlnaa
namespace Go.Proofs.Ytepokhdjglnlnaa
open Go.RowKit

theorem in_any (x lo hi : Int) (w : World) :
    Calls Try.prog 47 #[.int .i64 x, .int .i64 lo, .int .i64 hi] w fun e w' => e = .returned (.bool (decide (lo ≤ x ∧ x ≤ hi))) ∧ w = w' := by
  by_cases h1 : lo ≤ x <;> by_cases h2 : x ≤ hi
  all_goals
    go_enter Try.func47, Try.ntmps47
    go_wp2
    go_ret
    exact ⟨by simp [h1, h2], rfl⟩
end Go.Proofs.Ytepokhdjglnlnaa
namespace Go.Proofs.Ytepokhdjglnlnaa
open Go.RowKit

theorem i64_or_nat (a b : Nat) (ha : a < 9223372036854775808) (hb : b < 9223372036854775808) : bits .or .i64 (a : Int) (b : Int) = ((a ||| b : Nat) : Int) := by
  have hx : a ||| b < 2 ^ 63 := Nat.or_lt_two_pow (by omega) (by omega)
  show IntKind.i64.wrap ((BitVec.ofInt 64 (a : Int) ||| BitVec.ofInt 64 (b : Int)).toNat : Int) = _
  rw [BitVec.toNat_or, ofInt_u64 a (by omega), ofInt_u64 b (by omega), IntKind.wrap_i64]
  omega
theorem i64_and_nat (a b : Nat) (ha : a < 9223372036854775808) (hb : b < 9223372036854775808) : bits .and .i64 (a : Int) (b : Int) = ((a &&& b : Nat) : Int) := by
  have hx : a &&& b < 2 ^ 63 := Nat.and_lt_two_pow _ (by omega)
  show IntKind.i64.wrap ((BitVec.ofInt 64 (a : Int) &&& BitVec.ofInt 64 (b : Int)).toNat : Int) = _
  rw [BitVec.toNat_and, ofInt_u64 a (by omega), ofInt_u64 b (by omega), IntKind.wrap_i64]
  omega
/-- 'x | y' where x is a multiple of 2^k and y is below 2^k. -/
theorem i64_or_add (k : Nat) {x y : Int} (hx0 : 0 ≤ x) (hx1 : x ≤ 9223372036854775807) (hx2 : x % ((2 ^ k : Nat) : Int) = 0) (hy0 : 0 ≤ y) (hy1 : y ≤ 9223372036854775807) (hy2 : y < ((2 ^ k : Nat) : Int)) :
    bits .or .i64 x y = x + y := by
  obtain ⟨a, rfl⟩ := Int.eq_ofNat_of_zero_le hx0
  obtain ⟨b, rfl⟩ := Int.eq_ofNat_of_zero_le hy0
  rw [i64_or_nat a b (by omega) (by omega), nat_join k a b (by omega) (by omega)]
  omega
theorem i64_or_low (k : Nat) {x y : Int} (hx0 : 0 ≤ x) (hx1 : x ≤ 9223372036854775807) (hx2 : x < ((2 ^ k : Nat) : Int)) (hy0 : 0 ≤ y) (hy1 : y ≤ 9223372036854775807) (hy2 : y % ((2 ^ k : Nat) : Int) = 0) :
    bits .or .i64 x y = x + y := by
  obtain ⟨a, rfl⟩ := Int.eq_ofNat_of_zero_le hx0
  obtain ⟨b, rfl⟩ := Int.eq_ofNat_of_zero_le hy0
  rw [i64_or_nat a b (by omega) (by omega), Nat.or_comm, nat_join k b a (by omega) (by omega)]
  omega
theorem i64_and_127 {x : Int} (hx0 : 0 ≤ x) (hx1 : x ≤ 9223372036854775807) : bits .and .i64 x 127 = x % 128 := by
  obtain ⟨a, rfl⟩ := Int.eq_ofNat_of_zero_le hx0
  rw [show (127 : Int) = ((127 : Nat) : Int) from rfl, i64_and_nat a 127 (by omega) (by omega), nat_mask7]
  omega
theorem u8_and_127 {x : Int} (hx0 : 0 ≤ x) (hx1 : x ≤ 255) : bits .and .u8 x 127 = x % 128 := by
  obtain ⟨a, rfl⟩ := Int.eq_ofNat_of_zero_le hx0
  rw [show (127 : Int) = ((127 : Nat) : Int) from rfl, u8_and_nat a 127 (by omega) (by omega), nat_mask7]
  omega
theorem u8_and_15 {x : Int} (hx0 : 0 ≤ x) (hx1 : x ≤ 255) : bits .and .u8 x 15 = x % 16 := by
  obtain ⟨a, rfl⟩ := Int.eq_ofNat_of_zero_le hx0
  rw [show (15 : Int) = ((15 : Nat) : Int) from rfl, u8_and_nat a 15 (by omega) (by omega), nat_mask4]
  omega
theorem u8_or_add (k : Nat) {x y : Int} (hx0 : 0 ≤ x) (hx1 : x ≤ 255) (hx2 : x % ((2 ^ k : Nat) : Int) = 0) (hy0 : 0 ≤ y) (hy1 : y ≤ 255) (hy2 : y < ((2 ^ k : Nat) : Int)) :
    bits .or .u8 x y = x + y := by
  obtain ⟨a, rfl⟩ := Int.eq_ofNat_of_zero_le hx0
  obtain ⟨b, rfl⟩ := Int.eq_ofNat_of_zero_le hy0
  rw [u8_or_nat a b (by omega) (by omega), nat_join k a b (by omega) (by omega)]
  omega
end Go.Proofs.Ytepokhdjglnlnaa
