/- Texts of this claim, merged: Tabs2, Tabs3. Conditions: as stated. -/
import Derived.Test.YtficnbeciohpfaaSg2
import Derived.WalkSmall
namespace Go.Proofs.Ytficnbeciohpfaa
open Go.RowKit

/-- The number of cells of all rows. -/
def tot (ll : List (List Int)) : Nat := (ll.map List.length).sum
theorem take_succ_getD {α : Type} (l : List α) (d : α) (k : Nat) (h : k < l.length) : l.take (k + 1) = l.take k ++ [l.getD k d] := by
  rw [List.take_succ_eq_append_getElem h, List.getD_eq_getElem?_getD, List.getElem?_eq_getElem h]; rfl
theorem tot_succ {ll : List (List Int)} {k : Nat} (h : k < ll.length) : tot (ll.take (k + 1)) = tot (ll.take k) + (ll.getD k []).length := by
  rw [take_succ_getD ll [] k h]; simp [tot]
theorem tot_take (ll : List (List Int)) (k : Nat) : tot (ll.take k) ≤ tot ll := by
  have h : tot ll = tot (ll.take k) + tot (ll.drop k) := by
    unfold tot; rw [← List.sum_append, ← List.map_append, List.take_append_drop]
  omega
theorem tot_get {ll : List (List Int)} {k : Nat} (h : k < ll.length) : (ll.getD k []).length ≤ tot ll := by
  have h1 := tot_succ h
  have h2 := tot_take ll (k + 1)
  omega
/-- What is left of a budget. -/
def szD (left : Int) (n : Nat) : Int := if (n : Int) ≤ left then left - n else -1
theorem szInt_ok (v : Value) (l : List Int) (w : World) (hr : ReadI w v l) (left : Int) (h0 : (l.length : Int) ≤ left) (h1 : left ≤ 1048576) :
    Calls Try.prog 58 #[v, .int .i64 left] w fun e w' => e = .returned (.int .i64 (left - l.length)) ∧ w = w' := by
  obtain ⟨a, cap, rfl, -⟩ := hr
  go_enter Try.func58, Try.ntmps58
  go_wp2_with fail
  go_ret
  exact ⟨rfl, rfl⟩
theorem szInt_no (v : Value) (l : List Int) (w : World) (hr : ReadI w v l) (left : Int) (h0 : left < (l.length : Int)) (h1 : 0 ≤ left) (hl : l.length ≤ 9223372036854775807) :
    Calls Try.prog 58 #[v, .int .i64 left] w fun e w' => e = .returned (.int .i64 (-1)) ∧ w = w' := by
  obtain ⟨a, cap, rfl, -⟩ := hr
  go_enter Try.func58, Try.ntmps58
  go_wp2_with fail
  go_ret
  exact ⟨rfl, rfl⟩
/-- No row is longer than a slice may be. -/
def Short (ll : List (List Int)) : Prop := ll.length ≤ 9223372036854775807 ∧ ∀ i, i < ll.length → (ll.getD i []).length ≤ 9223372036854775807
set_option maxHeartbeats 800000 in
theorem szIntSS_any (v : Value) (ll : List (List Int)) (w : World) (hr : ReadSS w v ll) (hs : Short ll) (left : Int) (h0 : 0 ≤ left) (h1 : left ≤ 1048576) :
    Calls Try.prog 35 #[v, .int .i64 left] w fun e w' => e = .returned (.int .i64 (szD left (ll.length + tot ll))) ∧ w = w' := by
  obtain ⟨a, cap, rfl, hc⟩ := hr
  have HC := Lib.hid hc
  have HS := Lib.hid hs.2
  have hn := hs.1
  clear hc hs
  by_cases hle : (ll.length : Int) ≤ left
  · go_enter Try.func35, Try.ntmps35
    go_wp2_with fail
    go_loop [1, 5] (fun lv iv => ∃ (k : Nat) (r : Int), k ≤ ll.length ∧ iv = .int .i64 (k : Int) ∧ lv = .int .i64 r ∧ Hid (r = left - ll.length - tot (ll.take k)) ∧ 0 ≤ r ∧ r ≤ left) (fun _ iv => ll.length - (intOf iv).toNat)
    case atStart => exact ⟨0, _, by omega, rfl, rfl, Lib.hid (by simp [tot]), by omega, by omega⟩
    case round =>
      obtain ⟨k, r, hk, rfl, rfl, hR, hr0, hr1⟩ := hrel
      by_cases hlt : k < ll.length
      · obtain ⟨x, u, rfl, hx, hru⟩ := HC.out k hlt
        have hlen := HS.out k hlt
        have z0 : (0 : Int) ≤ (k : Int) := by omega
        have z1 : (k : Int) < (ll.length : Int) := by omega
        by_cases hin : ((ll.getD k []).length : Int) ≤ r
        · have HK := Lib.hid (szInt_ok u _ w hru r hin (by omega))
          have HT := Lib.hid (tot_succ hlt)
          obtain ⟨L, hL⟩ : ∃ L : Nat, (ll.getD k []).length = L := ⟨_, rfl⟩
          rw [hL] at HK HT hin
          clear hlen hru hL
          go_wp2_with fail
          refine HK.out.mono ?_
          rintro e w' ⟨rfl, rfl⟩
          go_wp2_with fail
          go_round
          case rel => exact ⟨k + 1, r - L, by omega, by go_num, rfl, Lib.hid (by rw [HT.out, hR.out]; omega), by omega, by omega⟩
          case measure => simp [intOf]; omega
        · have HK := Lib.hid (szInt_no u _ w hru r (by omega) hr0 hlen)
          have HE : Hid (szD left (ll.length + tot ll) = -1) := Lib.hid (by
            have e1 := tot_succ hlt
            have e2 := tot_take ll (k + 1)
            have e3 := hR.out
            unfold szD; rw [if_neg (by omega)])
          clear hlen hru hin
          go_wp2_with fail
          refine HK.out.mono ?_
          rintro e w' ⟨rfl, rfl⟩
          go_wp2_with fail
          go_ret
          exact ⟨ret_int HE.out.symm, rfl⟩
      · obtain rfl : k = ll.length := by omega
        go_wp2_with fail
        go_ret
        exact ⟨ret_int (by have := hR.out; rw [List.take_length] at this; unfold szD; rw [if_pos (by omega)]; omega), rfl⟩
  · have hle' : left < (ll.length : Int) := by omega
    have HE : Hid (szD left (ll.length + tot ll) = -1) := Lib.hid (by unfold szD; rw [if_neg (by omega)])
    go_enter Try.func35, Try.ntmps35
    go_wp2_with fail
    go_ret
    exact ⟨ret_int HE.out.symm, rfl⟩
theorem bcell {W w1 : World} (hb : Below W.heap.size W w1) : (∀ b o, b < W.heap.size → w1.cell? ⟨b, o, none⟩ = W.cell? ⟨b, o, none⟩) ∧ (∀ b o, b < W.heap.size → w1.frozen? ⟨b, o, none⟩ = W.frozen? ⟨b, o, none⟩) :=
  ⟨fun b o h => hb.cell (p := ⟨b, o, none⟩) h, fun b o h => hb.frozen (p := ⟨b, o, none⟩) h⟩
/-- The cells of a table. -/
def szOf (ll : List (List Int)) : Nat := ll.length + tot ll
theorem szTable_any (c : Int) (v : Value) (ll : List (List Int)) (w : World) (hr : ReadSS w v ll) (hs : Short ll) (left : Int) (h0 : 0 ≤ left) (h1 : left ≤ 1048576) :
    Calls Try.prog 13 #[.agg #[.int .i64 c, v], .int .i64 left] w fun e w' => e = .returned (.int .i64 (szD left (szOf ll))) ∧ Below w.heap.size w w' := by
  have HK := Lib.hid (fun (w' : World) (hb : Below w.heap.size w w') => szIntSS_any v ll w' (hr.kept hb) hs left h0 h1)
  obtain ⟨a, cap, rfl, -⟩ := hr
  clear hs
  by_cases hle : ((szOf ll : Nat) : Int) ≤ left
  · have hv : szD left (ll.length + tot ll) = left - szOf ll := by unfold szD szOf at *; rw [if_pos hle]
    have he : szD left (szOf ll) = left - szOf ll := by unfold szD; rw [if_pos hle]
    rw [hv] at HK
    rw [he]
    clear hv he
    go_enter Try.func13, Try.ntmps13
    go_wp2_with fail
    refine (HK.out _ ((Below.refl _ _).alloc (Nat.le_refl _) _)).mono ?_
    rintro e w' ⟨rfl, rfl⟩
    go_wp2_with fail
    go_ret
    exact ⟨rfl, (Below.refl _ _).alloc (Nat.le_refl _) _⟩
  · have hv : szD left (ll.length + tot ll) = -1 := by unfold szD szOf at *; rw [if_neg hle]
    have he : szD left (szOf ll) = -1 := by unfold szD; rw [if_neg hle]
    rw [hv] at HK
    rw [he]
    clear hv he
    go_enter Try.func13, Try.ntmps13
    go_wp2_with fail
    refine (HK.out _ ((Below.refl _ _).alloc (Nat.le_refl _) _)).mono ?_
    rintro e w' ⟨rfl, rfl⟩
    go_wp2_with fail
    go_ret
    exact ⟨rfl, (Below.refl _ _).alloc (Nat.le_refl _) _⟩

/-! ### Equality -/
theorem take_eq_all {ll ll' : List (List Int)} {n : Nat} (h : ll.take n = ll'.take n) (h1 : ll.length ≤ n) (h2 : ll'.length ≤ n) : ll = ll' := by
  rwa [List.take_of_length_le h1, List.take_of_length_le h2] at h
set_option maxHeartbeats 800000 in
theorem eqIntSS_any (v v' : Value) (ll ll' : List (List Int)) (w : World) (hr : ReadSS w v ll) (hr' : ReadSS w v' ll') (hl : ll.length ≤ 1000000000) (ht : ∀ i, i < ll.length → (ll.getD i []).length ≤ 1000000000) :
    Calls Try.prog 41 #[v, v'] w fun e w' => e = .returned (.bool (decide (ll = ll'))) ∧ Below w.heap.size w w' := by
  obtain ⟨a, cap, rfl, ha⟩ := hr
  obtain ⟨a', cap', rfl, ha'⟩ := hr'
  have HA := Lib.hid ha
  have HA' := Lib.hid ha'
  have HT := Lib.hid ht
  clear ha ha' ht
  by_cases hlen : ll.length = ll'.length
  · have hne : ((ll.length : Int) != (ll'.length : Int)) = false := by simp [hlen]
    have HL := Lib.hid hlen
    clear hlen
    go_enter Try.func41, Try.ntmps41
    go_wp2_with fail
    go_loopw [5] (fun iv wr => ∃ (k : Nat), k ≤ ll.length ∧ iv = .int .i64 (k : Int) ∧ Hid (ll.take k = ll'.take k) ∧ Below w.heap.size w wr) (fun iv _ => ll.length - (intOf iv).toNat)
    case atStart => exact ⟨0, by omega, rfl, Lib.hid rfl, Below.refl _ _⟩
    case round =>
      obtain ⟨k, hk, rfl, hsame, hb⟩ := hrel
      by_cases hlt : k < ll.length
      · have hlt' : k < ll'.length := by have := HL.out; omega
        obtain ⟨x, u, rfl, hx, hu⟩ := HA.out k hlt
        obtain ⟨x', u', rfl, hx', hu'⟩ := HA'.out k hlt'
        have HQ := Lib.hid (fun n => eqIntQ_any u u' _ _ (wr.drewN n) ((hu.kept hb).kept (below_drewN (Below.refl _ _) n)) ((hu'.kept hb).kept (below_drewN (Below.refl _ _) n)) (HT.out k hlt))
        have hy := (hb.cell (World.block_lt_of_cell? w _ hx)).trans hx
        have hy' := (hb.cell (World.block_lt_of_cell? w _ hx')).trans hx'
        have z0 : (0 : Int) ≤ (k : Int) := by omega
        have z1 : (k : Int) < (ll.length : Int) := by omega
        have z2 : (k : Int) < (ll'.length : Int) := by omega
        clear hx hx' hu hu'
        by_cases he : ll.getD k [] = ll'.getD k []
        · have hq : eqB (ll.getD k []) (ll'.getD k []) = true := decide_eq_true he
          rw [hq] at HQ
          have HE := Lib.hid he
          clear he hq
          go_wp2_with fail
          go_quiet ((go_at_call 68; exact Calls.quiet_of (HQ.out _)))
          go_wp2_with fail
          go_roundw
          case rel => exact ⟨k + 1, by omega, by go_num, Lib.hid (by rw [take_succ_getD ll [] k hlt, take_succ_getD ll' [] k hlt', hsame.out, HE.out]), below_drewN hb _⟩
          case measure => simp [intOf]; omega
        · have hq : eqB (ll.getD k []) (ll'.getD k []) = false := decide_eq_false he
          rw [hq] at HQ
          have HE := Lib.hid he
          clear he hq
          go_wp2_with fail
          go_quiet ((go_at_call 68; exact Calls.quiet_of (HQ.out _)))
          go_wp2_with fail
          go_ret
          exact ⟨ret_b (by rw [decide_eq_false]; intro e; apply HE.out; rw [e]), below_drewN hb _⟩
      · go_wp2_with fail
        go_ret
        exact ⟨ret_b (by rw [decide_eq_true]; exact take_eq_all hsame.out (by omega) (by have := HL.out; omega)), hb⟩
  · have hne : ((ll.length : Int) != (ll'.length : Int)) = true := by simp; omega
    have HL := Lib.hid hlen
    clear hlen
    go_enter Try.func41, Try.ntmps41
    go_wp2_with fail
    go_ret
    exact ⟨ret_b (by rw [decide_eq_false]; intro e; exact HL.out (by rw [e])), Below.refl _ _⟩
/-- Two tables are equal. -/
def eqTb (c c' : Int) (ll ll' : List (List Int)) : Bool := decide (c = c') && decide (ll = ll')
theorem eqTable_any (c c' : Int) (v v' : Value) (ll ll' : List (List Int)) (w : World) (hr : ReadSS w v ll) (hr' : ReadSS w v' ll') (hl : ll.length ≤ 1000000000) (ht : ∀ i, i < ll.length → (ll.getD i []).length ≤ 1000000000) :
    Calls Try.prog 17 #[.agg #[.int .i64 c, v], .agg #[.int .i64 c', v']] w fun e w' => e = .returned (.bool (eqTb c c' ll ll')) ∧ Below w.heap.size w w' := by
  have HK := Lib.hid (fun (w' : World) (hb : Below w.heap.size w w') => eqIntSS_any v v' ll ll' w' (hr.kept hb) (hr'.kept hb) hl ht)
  obtain ⟨a, cap, rfl, -⟩ := hr
  obtain ⟨a', cap', rfl, -⟩ := hr'
  have hb2 := (((Below.refl w.heap.size w).alloc (Nat.le_refl _) (.cells #[.int .i64 c, .slice a ll.length cap] 33)).alloc (by simp) (.cells #[.int .i64 c', .slice a' ll'.length cap'] 33))
  by_cases hc : c = c'
  · have hn : (c != c') = false := by simp [hc]
    have hn2 : (c == c') = true := by simp [hc]
    have HE := Lib.hid hc
    clear hc ht
    by_cases he : ll = ll'
    · rw [decide_eq_true he] at HK
      have HF := Lib.hid he
      clear he
      go_enter Try.func17, Try.ntmps17
      go_wp2_with fail
      refine (HK.out _ hb2).mono ?_
      rintro e w' ⟨rfl, hb3⟩
      go_wp2_with fail
      go_ret
      exact ⟨ret_b (by unfold eqTb; rw [decide_eq_true HE.out, decide_eq_true HF.out]; rfl), hb2.trans (hb3.mono hb2.size)⟩
    · rw [decide_eq_false he] at HK
      have HF := Lib.hid he
      clear he
      go_enter Try.func17, Try.ntmps17
      go_wp2_with fail
      refine (HK.out _ hb2).mono ?_
      rintro e w' ⟨rfl, hb3⟩
      go_wp2_with fail
      go_ret
      exact ⟨ret_b (by unfold eqTb; rw [decide_eq_false HF.out]; simp), hb2.trans (hb3.mono hb2.size)⟩
  · have hn : (c != c') = true := by simpa using hc
    have HE := Lib.hid hc
    clear hc ht
    go_enter Try.func17, Try.ntmps17
    go_wp2_with fail
    go_ret
    exact ⟨ret_b (by unfold eqTb; rw [decide_eq_false HE.out]; rfl), hb2⟩
theorem eqTb_self (c : Int) (ll : List (List Int)) : eqTb c c ll ll = true := by unfold eqTb; simp
theorem szD_ok {left : Int} {n : Nat} (h : (n : Int) ≤ left) : szD left n = left - n := by unfold szD; rw [if_pos h]
theorem szD_no {left : Int} {n : Nat} (h : ¬ (n : Int) ≤ left) : szD left n = -1 := by unfold szD; rw [if_neg h]
theorem szOf_bd {ll : List (List Int)} {m : Nat} (h : szOf ll ≤ m) : ll.length ≤ m ∧ ∀ i, i < ll.length → (ll.getD i []).length ≤ m := by
  unfold szOf at h
  exact ⟨by omega, fun i hi => by have := tot_get hi; omega⟩
end Go.Proofs.Ytficnbeciohpfaa
namespace Go.Proofs.Ytficnbeciohpfaa
open Go.RowKit

theorem info3j : (Try.prog.info? 3).map (fun i => (i.zero, i.size, i.bytes)) = some (some (.int .i64 0), 1, 8) := by kernel_rfl
theorem infoSj : (Try.prog.info? 65).map (fun i => (i.zero, i.size, i.bytes)) = some (some (.slice none 0 0), 1, 24) := by kernel_rfl
theorem OwnI.full {w : World} {B : Nat} {v : Value} {n : Nat} (h : w.ownsRow B 3 1 v n (madeCells (Value.cells (.int .i64 0)) (n * 1)).toList) : OwnI w B v (List.replicate n 0) := by
  unfold OwnI
  have e : (madeCells (Value.cells (.int .i64 0)) (n * 1)).toList = intsV (List.replicate n 0) := by
    rw [show Value.cells (.int .i64 0) = #[.int .i64 0] from rfl, toList_madeCells_one]; simp [intsV]
  rw [e] at h; rw [List.length_replicate]; exact h
theorem copy_step (l : List Int) (k : Nat) (h : k < l.length) : (l.take k ++ List.replicate (l.length - k) 0).set k l[k] = l.take (k + 1) ++ List.replicate (l.length - (k + 1)) 0 := by
  rw [List.set_append, if_neg (by simp; omega), List.take_succ_eq_append_getElem h, List.append_assoc]
  congr 1
  rw [show k - (l.take k).length = 0 by simp; omega, show l.length - k = (l.length - (k + 1)) + 1 by omega, List.replicate_succ]
  rfl
/-- A row of ints in memory of the call's own, with its blocks' bounds. -/
def RetJ (l : List Int) (w : World) (e : Ending) (w' : World) : Prop := ∃ v, e = .returned v ∧ OwnI w' w.heap.size v l ∧ Below w.heap.size w w'
set_option maxHeartbeats 800000 in
theorem toInt_any (v : Value) (l : List Int) (w : World) (hr : ReadI w v l) (hl : l.length ≤ 1048576) :
    Calls Try.prog 61 #[v] w (RetJ l w) := by
  obtain ⟨i0, hi, hz0, hz1, hz2⟩ := info_parts info3j
  have HI : Hid (_ ∧ _ ∧ _ ∧ _) := Lib.hid ⟨hi, hz0, hz1, hz2⟩
  clear hi hz0 hz1 hz2
  obtain ⟨a, cap, rfl, ha⟩ := hr
  have HA := Lib.hid ha
  clear ha
  go_enter Try.func61, Try.ntmps61
  go_wp2_with (at_make; refine wpList_make_full _ rfl _ _ 65 rfl w.heap.size 3 i0 (.int .i64 0) 1 Try.underlying65 HI.out.1 HI.out.2.1 HI.out.2.2.1 .i64 .i64 _ _ l.length rfl rfl rfl rfl (by rw [HI.out.2.2.2]; omega) (by unfold maxLen; omega) (Nat.le_refl _) ?_; intro w0 hown0 hgrow0)
  have hown := OwnI.full hown0
  have hb0 := (Below.refl w.heap.size w).grown hgrow0 (Nat.le_refl _) (by simp)
  clear hown0 hgrow0
  go_loopw [4] (fun iv wr => ∃ k : Nat, k ≤ l.length ∧ iv = .int .i64 (k : Int) ∧ OwnI wr w.heap.size (.slice (some ⟨w.heap.size, 0, none⟩) l.length l.length) (l.take k ++ List.replicate (l.length - k) 0) ∧ Below w.heap.size w wr) (fun iv _ => l.length - (intOf iv).toNat)
  case atStart => exact ⟨0, by omega, rfl, by simpa using hown, hb0⟩
  case round =>
    obtain ⟨k, hk, rfl, ho, hb⟩ := hrel
    by_cases hlt : k < l.length
    · obtain ⟨x, rfl, hx⟩ := HA.out k hlt
      have hy := (hb.cell (World.block_lt_of_cell? w _ hx)).trans hx
      have hcell := ho.cell k (by simp; omega)
      have hfz := ho.frozen k
      have ho2 := (ho.store k l[k]).1
      rw [copy_step l k hlt] at ho2
      have HO := Lib.hid ho2
      have z0 : (0 : Int) ≤ (k : Int) := by omega
      have z1 : (k : Int) < (l.length : Int) := by omega
      clear hx ho2
      go_wp2_with fail
      go_roundw
      case rel => exact ⟨k + 1, by omega, by go_num, HO.out, hb.setCell (Nat.le_refl _) _⟩
      case measure => simp [intOf]; omega
    · obtain rfl : k = l.length := by omega
      go_wp2_with fail
      go_ret
      refine ⟨_, rfl, ?_, hb⟩
      simpa using ho

theorem copy_stepL (l : List (List Int)) (k : Nat) (h : k < l.length) : (l.take k ++ List.replicate (l.length - k) []).set k (l.getD k []) = l.take (k + 1) ++ List.replicate (l.length - (k + 1)) [] := by
  rw [List.set_append, if_neg (by simp; omega), take_succ_getD l [] k h, List.append_assoc]
  congr 1
  rw [show k - (l.take k).length = 0 by simp; omega, show l.length - k = (l.length - (k + 1)) + 1 by omega, List.replicate_succ]
  rfl
set_option maxHeartbeats 800000 in
theorem toIntSS_any (v : Value) (ll : List (List Int)) (w : World) (hr : ReadSS w v ll) (hl : ll.length ≤ 1048576) (ht : ∀ i, i < ll.length → (ll.getD i []).length ≤ 1048576) :
    Calls Try.prog 38 #[v] w (RetSS ll w) := by
  obtain ⟨i0, hi, hz0, hz1, hz2⟩ := info_parts infoSj
  have HI : Hid (_ ∧ _ ∧ _ ∧ _) := Lib.hid ⟨hi, hz0, hz1, hz2⟩
  clear hi hz0 hz1 hz2
  obtain ⟨a, cap, rfl, ha⟩ := hr
  have HA := Lib.hid ha
  have HT := Lib.hid ht
  clear ha ht
  go_enter Try.func38, Try.ntmps38
  go_wp2_with (at_make; refine wpList_make_full _ rfl _ _ 28 rfl w.heap.size 65 i0 (.slice none 0 0) 1 Try.underlying28 HI.out.1 HI.out.2.1 HI.out.2.2.1 .i64 .i64 _ _ ll.length rfl rfl rfl rfl (by rw [HI.out.2.2.2]; omega) (by unfold maxLen; omega) (Nat.le_refl _) ?_; intro w0 hown0 hgrow0)
  have hown := OwnSS.full (C := w0.heap.size) hown0 (fun g hg => (World.ownsRow.lt hown0 g hg).2)
  have hb0 := (Below.refl w.heap.size w).grown hgrow0 (Nat.le_refl _) (by simp)
  clear hown0 hgrow0
  go_loopw [4] (fun iv wr => ∃ k : Nat, k ≤ ll.length ∧ iv = .int .i64 (k : Int) ∧ OwnSS wr w.heap.size wr.heap.size (.slice (some ⟨w.heap.size, 0, none⟩) ll.length ll.length) (ll.take k ++ List.replicate (ll.length - k) []) ∧ Below w.heap.size w wr) (fun iv _ => ll.length - (intOf iv).toNat)
  case atStart => exact ⟨0, by omega, rfl, by simpa using hown, hb0⟩
  case round =>
    obtain ⟨k, hk, rfl, ho, hb⟩ := hrel
    by_cases hlt : k < ll.length
    · obtain ⟨x, u, rfl, hx, hu⟩ := HA.out k hlt
      have hy := (hb.cell (World.block_lt_of_cell? w _ hx)).trans hx
      have z0 : (0 : Int) ≤ (k : Int) := by omega
      have z1 : (k : Int) < (ll.length : Int) := by omega
      have HK := Lib.hid (toInt_any u _ wr (hu.kept hb) (HT.out k hlt))
      have HS := Lib.hid (copy_stepL ll k hlt)
      obtain ⟨r, hrr⟩ : ∃ r, ll.getD k [] = r := ⟨_, rfl⟩
      rw [hrr] at HK HS
      clear hx hu hrr
      go_wp2_with fail
      refine HK.out.mono ?_
      rintro e w1 ⟨u1, rfl, ou, hb1⟩
      have ho1 := ho.same (Below.keeps hb1 (Nat.le_refl _))
      obtain ⟨⟨u0, hcell, -⟩, hfz⟩ := ho1.outer k (by simp; omega)
      have ho2 := ho1.store (C' := w1.heap.size) (k := k) (by simp; omega) (ou.base hb.size) (fun q hq => ⟨(ou.lt q hq).1, (ou.lt q hq).2⟩) hb1.size
      rw [HS.out] at ho2
      have HO := Lib.hid ho2
      have hb2 := hb.trans (hb1.mono hb.size)
      have hb3 := hb2.setCell (p := ⟨w.heap.size, k, none⟩) (Nat.le_refl _) u1
      obtain ⟨a1, cap1, rfl, -⟩ := ou.read
      clear ho ho1 ho2 ou hb1
      go_wp2_with fail
      go_roundw
      case rel => exact ⟨k + 1, by omega, by go_num, by have := HO.out; simpa using this, hb3⟩
      case measure => simp [intOf]; omega
    · obtain rfl : k = ll.length := by omega
      go_wp2_with fail
      go_ret
      refine ⟨_, rfl, ?_, hb⟩
      simpa using ho
theorem toTable_any (c : Int) (v : Value) (ll : List (List Int)) (w : World) (hr : ReadSS w v ll) (hl : ll.length ≤ 1048576) (ht : ∀ i, i < ll.length → (ll.getD i []).length ≤ 1048576) :
    Calls Try.prog 15 #[.agg #[.int .i64 c, v]] w (RetT c ll w) := by
  have HK := Lib.hid (fun (w' : World) (hb : Below w.heap.size w w') => toIntSS_any v ll w' (hr.kept hb) hl ht)
  obtain ⟨a, cap, rfl, -⟩ := hr
  clear ht
  have hb2 := (((Below.refl w.heap.size w).alloc (Nat.le_refl _) (.cells #[.int .i64 c, .slice a ll.length cap] 30)).alloc (by simp) (.cells #[.int .i64 0, .slice none 0 0] 33)).alloc (by simp; omega) (.cells #[.int .i64 c, .slice none 0 0] 33)
  go_enter Try.func15, Try.ntmps15
  go_wp2_with fail
  refine (HK.out _ hb2).mono ?_
  rintro e w1 ⟨v1, rfl, o1, hb1⟩
  obtain ⟨hc, hf⟩ := bcell hb1
  obtain ⟨a1, cap1, rfl, -⟩ := o1.read
  go_wp2_with fail
  refine bodyPost_ret (v := .agg #[.int .i64 c, .slice a1 ll.length cap1]) (by simp [results, Try.results15, go_sem, hc]) rfl ⟨_, rfl, ?_, ?_⟩
  · exact (o1.same ((((Same.refl _ _ _).setCell (.inl (by simp)) _).setCell (.inl (by simp)) _).setCell (.inl (by simp)) _)).base (by simp; omega) (by simp)
  · exact (((hb2.trans (hb1.mono hb2.size)).setCell (by simp; omega) _).setCell (by simp) _).setCell (by simp) _
end Go.Proofs.Ytficnbeciohpfaa
