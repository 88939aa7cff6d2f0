/- Texts of this claim, merged: ParB, ParC. Conditions: as stated. -/
import Derived.Test.YtfndnaldgaaieaaGreatDoorSi15
import Derived.Deep.AppendLies
namespace Go.Proofs.YtfndnaldgaaieaaGreatDoor
open Go.RowKit

/-- The rows of the first i classes. -/
def flatTo (p : List (List Int)) (i : Nat) : List Int := (p.take i).flatten
theorem flatTo_succ (p : List (List Int)) (i : Nat) (h : i < p.length) : flatTo p (i + 1) = flatTo p i ++ p.getD i [] := by
  unfold flatTo; rw [take_succ_getD p [] i h]; simp
theorem flatTo_len (p : List (List Int)) (i : Nat) : (flatTo p i).length = tot (p.take i) := by
  unfold flatTo tot; rw [List.length_flatten]
theorem flatTo_bd (p : List (List Int)) (i k : Nat) (h : i < p.length) (hk : k ≤ (p.getD i []).length) : (flatTo p i ++ (p.getD i []).take k).length ≤ tot p := by
  have h1 := tot_succ h
  have h2 := tot_take p (i + 1)
  rw [List.length_append, flatTo_len, List.length_take]
  omega
/-- The first row of the class before class i, or -1. -/
def lastTo (p : List (List Int)) : Nat → Int
  | 0 => -1
  | i + 1 => (p.getD i []).getD 0 0
/-- Row k of class i is as it should be. -/
def okX (R : Int) (p : List (List Int)) (i k : Nat) : Bool :=
  decide (0 ≤ (p.getD i []).getD k 0 ∧ (p.getD i []).getD k 0 ≤ R) && !(decide (0 < k) && decide ((p.getD i []).getD k 0 ≤ (p.getD i []).getD (k - 1) 0)) && !decide ((p.getD i []).getD k 0 ∈ flatTo p i ++ (p.getD i []).take k)
def okC (R : Int) (p : List (List Int)) (i : Nat) : Bool :=
  decide (2 ≤ (p.getD i []).length ∧ lastTo p i < (p.getD i []).getD 0 0) && (List.range (p.getD i []).length).all (okX R p i)
def partP (p : List (List Int)) (rows : Int) : Bool := (List.range p.length).all (okC (IntKind.i64.wrap (rows - 1)) p) && decide (0 ≤ rows ∧ rows ≤ 40)
theorem partP_no {p : List (List Int)} {rows : Int} {i : Nat} (hi : i < p.length) (h : okC (IntKind.i64.wrap (rows - 1)) p i = false) : partP p rows = false := by
  unfold partP
  have : (List.range p.length).all (okC (IntKind.i64.wrap (rows - 1)) p) = false := by
    rw [List.all_eq_false]; exact ⟨i, List.mem_range.mpr hi, by rw [h]; simp⟩
  rw [this]; rfl
theorem okC_no {R : Int} {p : List (List Int)} {i k : Nat} (hk : k < (p.getD i []).length) (h : okX R p i k = false) : okC R p i = false := by
  unfold okC
  have : (List.range (p.getD i []).length).all (okX R p i) = false := by
    rw [List.all_eq_false]; exact ⟨k, List.mem_range.mpr hk, by rw [h]; simp⟩
  rw [this]; simp
theorem okC_yes {R : Int} {p : List (List Int)} {i : Nat} (h1 : 2 ≤ (p.getD i []).length) (h2 : lastTo p i < (p.getD i []).getD 0 0) (h : ∀ k, k < (p.getD i []).length → okX R p i k = true) : okC R p i = true := by
  unfold okC
  rw [decide_eq_true (And.intro h1 h2), Bool.true_and, List.all_eq_true]
  exact fun k hk => h k (List.mem_range.mp hk)
theorem partP_yes {p : List (List Int)} {rows : Int} (h : ∀ i, i < p.length → okC (IntKind.i64.wrap (rows - 1)) p i = true) : partP p rows = decide (0 ≤ rows ∧ rows ≤ 40) := by
  unfold partP
  have : (List.range p.length).all (okC (IntKind.i64.wrap (rows - 1)) p) = true := by
    rw [List.all_eq_true]; exact fun i hi => h i (List.mem_range.mp hi)
  rw [this, Bool.true_and]
set_option maxHeartbeats 6400000 in
set_option maxRecDepth 20000 in
theorem isPartition_any (v : Value) (p : List (List Int)) (rows : Int) (w : World) (hr : ReadSS w v p) (hl : p.length ≤ 1048576) (htot : tot p ≤ 1048576) :
    Calls Tryz.prog 22 #[v, .int .i64 rows] w fun e w' => e = .returned (.bool (partP p rows)) ∧ Below w.heap.size w w' := by
  obtain ⟨i0, hi, hz0, hz1, hz2⟩ := info_parts info3i
  have HI : Hid (_ ∧ _ ∧ _ ∧ _) := Lib.hid ⟨hi, hz0, hz1, hz2⟩
  clear hi hz0 hz1 hz2
  obtain ⟨a, cap, rfl, ha⟩ := hr
  have HA := Lib.hid ha
  clear ha
  obtain ⟨R, hR⟩ : ∃ R, R = IntKind.i64.wrap (rows - 1) := ⟨_, rfl⟩
  have HRR := Lib.hid hR
  have HNO : Hid (∀ i, i < p.length → okC R p i = false → partP p rows = false) := Lib.hid (fun i hi h => by rw [hR] at h; exact partP_no hi h)
  have HYES : Hid ((∀ i, i < p.length → okC R p i = true) → partP p rows = decide (0 ≤ rows ∧ rows ≤ 40)) := Lib.hid (fun h => by rw [hR] at h; exact partP_yes h)
  have hRw : IntKind.i64.wrap (rows - 1) = R := hR.symm
  clear hR
  have hown0 : OwnI (w.alloc (.cells #[] 3)) w.heap.size (.slice (some ⟨w.heap.size, 0, none⟩) 0 0) [] :=
    OwnI.made (World.ownsRow_made w #[] 0 (Nat.le_refl _) (by unfold maxLen; omega) rfl)
  have hb0 := (Below.refl w.heap.size w).alloc (Nat.le_refl _) (.cells #[] 3)
  go_enter Tryz.func22, Tryz.ntmps22
  go_wp2_with fail
  go_loopw [5, 6, 7] (fun sv lv iv wr => ∃ i : Nat, i ≤ p.length ∧ iv = .int .i64 (i : Int) ∧ lv = .int .i64 (lastTo p i) ∧ OwnI wr w.heap.size sv (flatTo p i) ∧ Below w.heap.size w wr ∧ Hid (∀ j, j < i → okC R p j = true)) (fun _ _ iv _ => p.length - (intOf iv).toNat)
  case atStart => exact ⟨0, by omega, rfl, rfl, hown0, hb0, Lib.hid (fun j hj => absurd hj (Nat.not_lt_zero _))⟩
  case round =>
    clear hown0 hb0
    obtain ⟨i, hi, rfl, rfl, ho, hb, hall⟩ := hrel
    by_cases hlt : i < p.length
    · obtain ⟨xa, u, rfl, hx, hu⟩ := HA.out i hlt
      have hy := (hb.cell (World.block_lt_of_cell? w _ hx)).trans hx
      have hlr := tot_get hlt
      have hfb := flatTo_bd p i 0 hlt (Nat.zero_le _)
      have HFB := Lib.hid (fun k hk => flatTo_bd p i k hlt hk)
      have HFS : Hid (flatTo p (i + 1) = flatTo p i ++ (p.getD i []).take (p.getD i []).length) := Lib.hid (by rw [List.take_length]; exact flatTo_succ p i hlt)
      have HCN := Lib.hid (fun k => okC_no (R := R) (p := p) (i := i) (k := k))
      have HCY := Lib.hid (okC_yes (R := R) (p := p) (i := i))
      have HPN := Lib.hid (HNO.out i hlt)
      have HXX : Hid (∀ k, okX R p i k = (decide (0 ≤ (p.getD i []).getD k 0 ∧ (p.getD i []).getD k 0 ≤ R) && !(decide (0 < k) && decide ((p.getD i []).getD k 0 ≤ (p.getD i []).getD (k - 1) 0)) && !decide ((p.getD i []).getD k 0 ∈ flatTo p i ++ (p.getD i []).take k))) := Lib.hid (fun k => rfl)
      have HL1 : Hid (lastTo p (i + 1) = (p.getD i []).getD 0 0) := Lib.hid rfl
      have HCC : Hid (okC R p i = (decide (2 ≤ (p.getD i []).length ∧ lastTo p i < (p.getD i []).getD 0 0) && (List.range (p.getD i []).length).all (okX R p i))) := Lib.hid rfl
      obtain ⟨r, hrr⟩ : ∃ r, r = p.getD i [] := ⟨_, rfl⟩
      rw [← hrr] at hu hlr HFB HFS HCN HCY HXX HL1 HCC
      obtain ⟨L, hL⟩ : ∃ L, L = lastTo p i := ⟨_, rfl⟩
      obtain ⟨S, hS⟩ : ∃ S, S = flatTo p i := ⟨_, rfl⟩
      rw [← hL] at HCY HCC ⊢
      rw [← hS] at HFB HFS HXX ho
      have hS1 : S.length ≤ tot p := by have := HFB.out 0 (Nat.zero_le _); rw [List.length_append] at this; omega
      obtain ⟨ar, cr, rfl, har⟩ := hu
      have HR := Lib.hid har
      have HB := Lib.hid hb
      have HXI := Lib.hid hx
      clear hrr har hx hL hS hfb hb
      have z0 : (0 : Int) ≤ (i : Int) := by omega
      have z1 : (i : Int) < (p.length : Int) := by omega
      by_cases h2 : r.length < 2
      · have HX : Hid (partP p rows = false) := Lib.hid (HPN.out (by rw [HCC.out, decide_eq_false (by omega)]; rfl))
        have h2i : (r.length : Int) < 2 := by omega
        go_wp2_with fail
        go_ret
        exact ⟨ret_b HX.out, HB.out⟩
      · have h2i : ¬ (r.length : Int) < 2 := by omega
        obtain ⟨xr, rfl, hx0⟩ := HR.out 0 (by omega)
        rw [Addr.add_zero', get_getD r 0 (by omega)] at hx0
        have hy0 := (HB.out.cell (World.block_lt_of_cell? w _ hx0)).trans hx0
        obtain ⟨f, hf⟩ : ∃ f, f = r.getD 0 0 := ⟨_, rfl⟩
        rw [← hf] at hy0 HCY HCC HL1
        have z2 : (0 : Int) < (r.length : Int) := by omega
        have z2n : 0 < r.length := by omega
        clear hx0 hf
        by_cases hfl : f ≤ L
        · have HX : Hid (partP p rows = false) := Lib.hid (HPN.out (by rw [HCC.out, decide_eq_false (by omega)]; rfl))
          go_wp2_with fail
          go_ret
          exact ⟨ret_b HX.out, HB.out⟩
        · have HFL : Hid (L < f) := Lib.hid (by omega)
          obtain ⟨wi, rfl⟩ : ∃ wi : World, wi = wr := ⟨_, rfl⟩
          go_wp2_with fail
          go_loopw [5, 8] (fun sv kv wr => ∃ k : Nat, k ≤ r.length ∧ kv = .int .i64 (k : Int) ∧ OwnI wr w.heap.size sv (S ++ r.take k) ∧ Below w.heap.size w wr ∧ Hid (∀ j, j < k → okX R p i j = true)) (fun _ kv _ => r.length - (intOf kv).toNat)
          case atStart => exact ⟨0, by omega, rfl, by simpa using ho, HB.out, Lib.hid (fun j hj => absurd hj (Nat.not_lt_zero _))⟩
          case round =>
            clear ho hy hy0
            obtain ⟨k, hk, rfl, ho, hb, hal⟩ := hrel
            have hyi := (hb.cell (World.block_lt_of_cell? w _ HXI.out)).trans HXI.out
            by_cases hlk : k < r.length
            · obtain ⟨xr', hxr', hxk⟩ := HR.out k hlk
              obtain rfl := Option.some.inj hxr'
              rw [get_getD r k hlk] at hxk
              have hyk := (hb.cell (World.block_lt_of_cell? w _ hxk)).trans hxk
              obtain ⟨y, hy⟩ : ∃ y, y = r.getD k 0 := ⟨_, rfl⟩
              rw [← hy] at hyk
              have HYE := Lib.hid hy
              have HLN : Hid ((S ++ r.take k).length ≤ 1048576) := Lib.hid (by have := HFB.out k hk; omega)
              have HQ1 := Lib.hid (fun n => (in_any y 0 R (wr.drewN n)).mono fun e w' (h : e = _ ∧ _ = w') => And.intro h.1 h.2.symm)
              have HQ2 := Lib.hid (fun n => (l2Has_any _ (S ++ r.take k) y (wr.drewN n) (ho.read.kept (below_drewN (Below.refl _ _) n)) (by have := HLN.out; omega)).mono fun e w' (h : e = _ ∧ _ = w') => And.intro h.1 h.2.symm)
              have z3 : (0 : Int) ≤ (k : Int) := by omega
              have z4 : (k : Int) < (r.length : Int) := by omega
              clear hxk hy hxr'
              by_cases hin : 0 ≤ y ∧ y ≤ R
              · rw [decide_eq_true hin] at HQ1
                by_cases hk0 : 0 < k
                · obtain ⟨K, hK⟩ : ∃ K, k = K + 1 := ⟨k - 1, by omega⟩
                  have HK := Lib.hid hK
                  obtain ⟨xr', hxr', hxq⟩ := HR.out K (by omega)
                  obtain rfl := Option.some.inj hxr'
                  rw [get_getD r K (by omega)] at hxq
                  have hyq := (hb.cell (World.block_lt_of_cell? w _ hxq)).trans hxq
                  obtain ⟨t, ht⟩ : ∃ t, t = r.getD K 0 := ⟨_, rfl⟩
                  rw [← ht] at hyq
                  have HTE : Hid (t = r.getD (k - 1) 0) := Lib.hid (by rw [ht, hK]; rfl)
                  have hrl : r.length ≤ 1048576 := by omega
                  have hwk : IntKind.i64.wrap ((k : Int) - 1) = (K : Int) := by rw [IntKind.wrap_i64]; omega
                  have z5 : (0 : Int) ≤ (K : Int) := by omega
                  have z6 : (K : Int) < (r.length : Int) := by omega
                  have z7 : (0 : Int) < (k : Int) := by omega
                  clear hxq ht hxr' hK
                  by_cases hyt : y ≤ t
                  · clear HQ2
                    have HQ2 := HQ1
                    have HX : Hid (partP p rows = false) := Lib.hid (HPN.out (HCN.out k hlk (by rw [HXX.out k, ← HYE.out]; rw [← HTE.out, decide_eq_true hk0, decide_eq_true hyt]; simp)))
                    go_wp2_with fail
                    go_quiet (first | (go_at_call 43; exact Calls.quiet_of_same (HQ1.out _)) | (go_at_call 52; exact Calls.quiet_of_same (HQ2.out _)))
                    go_wp2_with fail
                    go_ret
                    exact ⟨ret_b HX.out, below_drewN hb _⟩
                  · by_cases hmem : y ∈ S ++ r.take k
                    · rw [decide_eq_true hmem] at HQ2
                      have HM := Lib.hid hmem
                      clear hmem
                      have HX : Hid (partP p rows = false) := Lib.hid (HPN.out (HCN.out k hlk (by rw [HXX.out k, ← HYE.out]; rw [decide_eq_true HM.out]; simp)))
                      go_wp2_with fail
                      go_quiet (first | (go_at_call 43; exact Calls.quiet_of_same (HQ1.out _)) | (go_at_call 52; exact Calls.quiet_of_same (HQ2.out _)))
                      go_wp2_with fail
                      go_ret
                      exact ⟨ret_b HX.out, below_drewN hb _⟩
                    · rw [decide_eq_false hmem] at HQ2
                      have HM := Lib.hid hmem
                      clear hmem
                      have HX : Hid (okX R p i k = true) := Lib.hid (by rw [HXX.out k, ← HYE.out]; rw [← HTE.out, decide_eq_true hin, decide_eq_false hyt, decide_eq_false HM.out]; simp)
                      go_wp2_with fail
                      go_quiet (first | (go_at_call 43; exact Calls.quiet_of_same (HQ1.out _)) | (go_at_call 52; exact Calls.quiet_of_same (HQ2.out _)))
                      have HBD := Lib.hid (fun m => below_drewN hb m)
                      have HOD := Lib.hid (fun m => ho.kept (below_drewN (Below.refl _ wr) m) (fun g hg => (OwnI.lt ho g hg).2))
                      have HSZ := Lib.hid (hb.size)
                      clear ho hb
                      go_wp2_with (at_builtin; refine wpList_append_own _ rfl _ _ 50 rfl w.heap.size 3 i0 (.int .i64 0) 1 8 Tryz.underlying50 HI.out.1 HI.out.2.1 HI.out.2.2.1 HI.out.2.2.2 rfl (by decide) _ _ _ rfl (World.ownsRow.alloc (HOD.out nq) _) ⟨wr.heap.size, 0, none⟩ 1 1 [.int .i64 y] rfl rfl (cell_one_new _ _ _) (one_i64 _) (by unfold maxLen; have := HLN.out; omega) (by have := HLN.out; omega) (by have := HSZ.out; simp; omega) ?_; intro v' w1 hown' hgrow _; have ho' := OwnI.snoc hown'; have hb' := ((HBD.out nq).alloc (by have := HSZ.out; simpa using this) (.cells #[.int .i64 y] 3)).grown hgrow (by have := HSZ.out; simp; omega) (fun g hg => (OwnI.lt (HOD.out nq) g hg).1); clear hown' hgrow)
                      go_roundw
                      case rel => exact ⟨k + 1, by omega, by go_num, by rw [take_succ_getD r 0 k hlk, ← HYE.out, ← List.append_assoc]; exact ho', hb', Lib.hid (fun j hj => by rcases (show j < k ∨ j = k by omega) with h | h; exact hal.out j h; rw [h]; exact HX.out)⟩
                      case measure => simp [intOf]; omega
                · have hkz : ¬ (0 : Int) < (k : Int) := by omega
                  by_cases hmem : y ∈ S ++ r.take k
                  · rw [decide_eq_true hmem] at HQ2
                    have HM := Lib.hid hmem
                    clear hmem
                    have HX : Hid (partP p rows = false) := Lib.hid (HPN.out (HCN.out k hlk (by rw [HXX.out k, ← HYE.out]; rw [decide_eq_true HM.out]; simp)))
                    go_wp2_with fail
                    go_quiet (first | (go_at_call 43; exact Calls.quiet_of_same (HQ1.out _)) | (go_at_call 52; exact Calls.quiet_of_same (HQ2.out _)))
                    go_wp2_with fail
                    go_ret
                    exact ⟨ret_b HX.out, below_drewN hb _⟩
                  · rw [decide_eq_false hmem] at HQ2
                    have HM := Lib.hid hmem
                    clear hmem
                    have HX : Hid (okX R p i k = true) := Lib.hid (by rw [HXX.out k, ← HYE.out]; rw [decide_eq_true hin, decide_eq_false hk0, decide_eq_false HM.out]; simp)
                    go_wp2_with fail
                    go_quiet (first | (go_at_call 43; exact Calls.quiet_of_same (HQ1.out _)) | (go_at_call 52; exact Calls.quiet_of_same (HQ2.out _)))
                    have HBD := Lib.hid (fun m => below_drewN hb m)
                    have HOD := Lib.hid (fun m => ho.kept (below_drewN (Below.refl _ wr) m) (fun g hg => (OwnI.lt ho g hg).2))
                    have HSZ := Lib.hid (hb.size)
                    clear ho hb
                    go_wp2_with (at_builtin; refine wpList_append_own _ rfl _ _ 50 rfl w.heap.size 3 i0 (.int .i64 0) 1 8 Tryz.underlying50 HI.out.1 HI.out.2.1 HI.out.2.2.1 HI.out.2.2.2 rfl (by decide) _ _ _ rfl (World.ownsRow.alloc (HOD.out nq) _) ⟨wr.heap.size, 0, none⟩ 1 1 [.int .i64 y] rfl rfl (cell_one_new _ _ _) (one_i64 _) (by unfold maxLen; have := HLN.out; omega) (by have := HLN.out; omega) (by have := HSZ.out; simp; omega) ?_; intro v' w1 hown' hgrow _; have ho' := OwnI.snoc hown'; have hb' := ((HBD.out nq).alloc (by have := HSZ.out; simpa using this) (.cells #[.int .i64 y] 3)).grown hgrow (by have := HSZ.out; simp; omega) (fun g hg => (OwnI.lt (HOD.out nq) g hg).1); clear hown' hgrow)
                    go_roundw
                    case rel => exact ⟨k + 1, by omega, by go_num, by rw [take_succ_getD r 0 k hlk, ← HYE.out, ← List.append_assoc]; exact ho', hb', Lib.hid (fun j hj => by rcases (show j < k ∨ j = k by omega) with h | h; exact hal.out j h; rw [h]; exact HX.out)⟩
                    case measure => simp [intOf]; omega
              · rw [decide_eq_false hin] at HQ1
                clear HQ2
                have HQ2 := HQ1
                have HX : Hid (partP p rows = false) := Lib.hid (HPN.out (HCN.out k hlk (by rw [HXX.out k, ← HYE.out]; rw [decide_eq_false hin]; simp)))
                go_wp2_with fail
                go_quiet (first | (go_at_call 43; exact Calls.quiet_of_same (HQ1.out _)) | (go_at_call 52; exact Calls.quiet_of_same (HQ2.out _)))
                go_wp2_with fail
                go_ret
                exact ⟨ret_b HX.out, below_drewN hb _⟩
            · obtain rfl : k = r.length := by omega
              have HX : Hid (okC R p i = true) := Lib.hid (HCY.out (by omega) HFL.out hal.out)
              have HO : Hid (OwnI wr w.heap.size _ (flatTo p (i + 1))) := Lib.hid (by rw [HFS.out]; exact ho)
              go_wp2_with fail
              go_roundw
              case rel => exact ⟨i + 1, by omega, by go_num, by rw [HL1.out], HO.out, hb, Lib.hid (fun j hj => by rcases (show j < i ∨ j = i by omega) with h | h; exact hall.out j h; rw [h]; exact HX.out)⟩
              case measure => simp [intOf]; omega
    · obtain rfl : i = p.length := by omega
      have HQ := Lib.hid (in_any rows 0 40 wr)
      have HX : Hid (partP p rows = decide (0 ≤ rows ∧ rows ≤ 40)) := Lib.hid (HYES.out hall.out)
      go_wp2_with fail
      refine HQ.out.mono ?_
      rintro e w' ⟨rfl, rfl⟩
      go_wp2_with fail
      go_ret
      exact ⟨ret_b (by rw [HX.out]; simp), hb⟩
end Go.Proofs.YtfndnaldgaaieaaGreatDoor
namespace Go.Proofs.YtfndnaldgaaieaaGreatDoor
open Go.RowKit

theorem ownsRow_same {w w' : World} {B n : Nat} {E : TypeId} {v : Value} {xs : List Value} (h : w.ownsRow B E 1 v n xs) (hs : ∀ g, v.ownBlock = some g → w'.heap[g]? = w.heap[g]?) : w'.ownsRow B E 1 v n xs := by
  refine ⟨h.1, ?_⟩
  rcases h.2 with hn | ⟨g, cap, cur, rfl, hB, hg, rest⟩
  · exact Or.inl hn
  · exact Or.inr ⟨g, cap, cur, rfl, hB, (hs g rfl).trans hg, rest⟩
/-- A list of rows that the call owns, and beside it a row of its own that is none of them. -/
def OwnSD (w : World) (B C : Nat) (v : Value) (ll : List (List Int)) (dv : Value) (dl : List Int) : Prop :=
  ∃ V : Nat → Value, w.ownsRow B 50 1 v ll.length ((List.range ll.length).map V) ∧ (∀ g, v.ownBlock = some g → g < C) ∧
    (∀ i, i < ll.length → OwnI w B (V i) (ll.getD i []) ∧ ∀ g, (V i).ownBlock = some g → g < C) ∧
    (∀ i j, i < j → j < ll.length → ∀ g, (V i).ownBlock = some g → (V j).ownBlock ≠ some g) ∧
    OwnI w B dv dl ∧ (∀ g, dv.ownBlock = some g → g < C) ∧ (∀ i, i < ll.length → ∀ g, (V i).ownBlock = some g → dv.ownBlock ≠ some g)
theorem OwnSD.ss {w : World} {B C : Nat} {v dv : Value} {ll : List (List Int)} {dl : List Int} (h : OwnSD w B C v ll dv dl) : OwnSS w B C v ll := by
  obtain ⟨V, h1, h2, h3, h4, -⟩ := h
  exact ⟨V, h1, h2, h3, h4⟩
theorem OwnSD.done {w : World} {B C : Nat} {v dv : Value} {ll : List (List Int)} {dl : List Int} (h : OwnSD w B C v ll dv dl) : OwnI w B dv dl := by
  obtain ⟨V, -, -, -, -, h5, -⟩ := h
  exact h5
theorem OwnSD.base {w : World} {B C C' : Nat} {v dv : Value} {ll : List (List Int)} {dl : List Int} (h : OwnSD w B C v ll dv dl) (hC : C ≤ C') : OwnSD w B C' v ll dv dl := by
  obtain ⟨V, h1, h2, h3, h4, h5, h6, h7⟩ := h
  exact ⟨V, h1, fun g hg => Nat.lt_of_lt_of_le (h2 g hg) hC, fun i hi => ⟨(h3 i hi).1, fun g hg => Nat.lt_of_lt_of_le ((h3 i hi).2 g hg) hC⟩, h4, h5, fun g hg => Nat.lt_of_lt_of_le (h6 g hg) hC, h7⟩
theorem OwnSD.same {w w' : World} {B C : Nat} {v dv : Value} {ll : List (List Int)} {dl : List Int} (h : OwnSD w B C v ll dv dl) (hs : Same B C w w') : OwnSD w' B C v ll dv dl := by
  obtain ⟨V, h1, h2, h3, h4, h5, h6, h7⟩ := h
  exact ⟨V, ownsRow_same h1 fun g hg => hs g (World.ownsRow.lt h1 g hg).1 (h2 g hg), h2, fun i hi => ⟨(h3 i hi).1.same fun g hg => hs g ((h3 i hi).1.lt g hg).1 ((h3 i hi).2 g hg), (h3 i hi).2⟩, h4, h5.same fun g hg => hs g (h5.lt g hg).1 (h6 g hg), h6, h7⟩
/-- One more row. -/
theorem OwnSD.snoc {w w' : World} {B C C' : Nat} {v v' u dv : Value} {ll : List (List Int)} {l dl : List Int} {V : Nat → Value} (o1 : w.ownsRow B 50 1 v ll.length ((List.range ll.length).map V))
    (o3 : ∀ i, i < ll.length → OwnI w B (V i) (ll.getD i []) ∧ ∀ g, (V i).ownBlock = some g → g < C) (o4 : ∀ i j, i < j → j < ll.length → ∀ g, (V i).ownBlock = some g → (V j).ownBlock ≠ some g)
    (o5 : OwnI w B dv dl) (o6 : ∀ g, dv.ownBlock = some g → g < C) (o7 : ∀ i, i < ll.length → ∀ g, (V i).ownBlock = some g → dv.ownBlock ≠ some g)
    (hu : OwnI w B u l) (huC : ∀ g, u.ownBlock = some g → C ≤ g ∧ g < C')
    (h1 : w'.ownsRow B 50 1 v' (ll.length + 1) ((List.range ll.length).map V ++ [u])) (hg : w.grownBy w' v.ownBlock) (hC : C ≤ C') (hv' : ∀ g, v'.ownBlock = some g → g < C') : OwnSD w' B C' v' (ll ++ [l]) dv dl := by
  have hap : ∀ i, i < ll.length → ∀ g, v.ownBlock = some g → (V i).ownBlock ≠ some g := fun i hi => row_apart o1 (o3 i hi).1
  have hapu : ∀ g, v.ownBlock = some g → u.ownBlock ≠ some g := row_apart o1 hu
  have hapd : ∀ g, v.ownBlock = some g → dv.ownBlock ≠ some g := row_apart o1 o5
  refine ⟨fun i => if i < ll.length then V i else u, ?_, hv', fun i hi => ?_, fun i j hij hj g => ?_, o5.keptBy hg hapd, fun g hg => Nat.lt_of_lt_of_le (o6 g hg) hC, fun i hi g => ?_⟩
  · have e : (List.range (ll ++ [l]).length).map (fun i => if i < ll.length then V i else u) = (List.range ll.length).map V ++ [u] := by
      rw [List.length_append, List.length_singleton, List.range_succ, List.map_append]
      congr 1
      · apply List.map_congr_left; intro i hi; rw [List.mem_range] at hi; simp [hi]
      · simp
    rw [e, List.length_append]; exact h1
  · rw [List.length_append, List.length_singleton] at hi
    rw [getD_snoc _ _ _ _ hi]
    by_cases hlt : i < ll.length
    · simp only [hlt, if_true]
      exact ⟨(o3 i hlt).1.keptBy hg (fun g hg => hap i hlt g hg), fun g hgg => Nat.lt_of_lt_of_le ((o3 i hlt).2 g hgg) hC⟩
    · simp only [hlt, if_false]
      exact ⟨hu.keptBy hg hapu, fun g hgg => (huC g hgg).2⟩
  · rw [List.length_append, List.length_singleton] at hj
    have hi : i < ll.length := by omega
    simp only [hi, if_true]
    by_cases hlt : j < ll.length
    · simp only [hlt, if_true]; exact o4 i j hij hlt g
    · simp only [hlt, if_false]
      intro a b
      have := (o3 i hi).2 g a
      have := (huC g b).1
      omega
  · by_cases hlt : i < ll.length
    · simp only [hlt, if_true]; exact o7 i hlt g
    · simp only [hlt, if_false]
      intro a b
      have := (huC g a).1
      have := o6 g b
      omega
/-- The row beside has grown. -/
theorem OwnSD.grow {w w' : World} {B : Nat} {v dv dv' : Value} {ll : List (List Int)} {dl dl' : List Int} (h : OwnSD w B w.heap.size v ll dv dl) (hd : OwnI w' B dv' dl') (hg : w.grownBy w' dv.ownBlock) (hor : ∀ g, dv'.ownBlock = some g → dv.ownBlock = some g ∨ g = w.heap.size) : OwnSD w' B w'.heap.size v ll dv' dl' := by
  obtain ⟨V, h1, h2, h3, h4, h5, h6, h7⟩ := h
  have hap : ∀ g, v.ownBlock = some g → dv.ownBlock ≠ some g := row_apart h1 h5
  refine ⟨V, ownsRow_same h1 fun g hgv => hg.block g (h2 g hgv) (fun e => hap g hgv e.symm), fun g hgv => Nat.lt_of_lt_of_le (h2 g hgv) hg.size, fun i hi => ⟨(h3 i hi).1.same fun g hgv => hg.block g ((h3 i hi).2 g hgv) (fun e => h7 i hi g hgv e.symm), fun g hgv => Nat.lt_of_lt_of_le ((h3 i hi).2 g hgv) hg.size⟩, h4, hd, fun g hgv => (hd.lt g hgv).2, fun i hi g hgv e => ?_⟩
  rcases hor g e with h | h
  · exact h7 i hi g hgv h
  · have := (h3 i hi).2 g hgv; omega

/-- Two rows agree in all of the set. -/
def agB (c : Nat) (ll : List (List Int)) (m s : Int) (i k : Nat) : Bool := bits .and .i64 (agrTo m (ll.getD i []) (ll.getD k []) c) s == s
/-- Row i and those of the n rows behind it that agree with it. -/
def rowsC (c : Nat) (ll : List (List Int)) (m s : Int) (i : Nat) : Nat → List Int
  | 0 => [(i : Int)]
  | n + 1 => if agB c ll m s i (i + 1 + n) = true then rowsC c ll m s i n ++ [((i + 1 + n : Nat) : Int)] else rowsC c ll m s i n
def clsC (c : Nat) (ll : List (List Int)) (m s : Int) (i : Nat) : List Int := rowsC c ll m s i (ll.length - (i + 1))
/-- The classes and the rows that are done, after i rows. -/
def clSt (c : Nat) (ll : List (List Int)) (m s : Int) : Nat → List (List Int) × List Int
  | 0 => ([], [])
  | i + 1 => if (i : Int) ∈ (clSt c ll m s i).2 then clSt c ll m s i else if 1 < (clsC c ll m s i).length then ((clSt c ll m s i).1 ++ [clsC c ll m s i], (clSt c ll m s i).2 ++ clsC c ll m s i) else clSt c ll m s i
theorem rowsC_len (c : Nat) (ll : List (List Int)) (m s : Int) (i : Nat) : ∀ n, (rowsC c ll m s i n).length ≤ n + 1
  | 0 => by simp [rowsC]
  | n + 1 => by
    have := rowsC_len c ll m s i n
    unfold rowsC
    split
    · simp; omega
    · omega
theorem clsC_len (c : Nat) (ll : List (List Int)) (m s : Int) (i : Nat) (hi : i < ll.length) : (clsC c ll m s i).length ≤ ll.length := by
  have := rowsC_len c ll m s i (ll.length - (i + 1)); unfold clsC; omega
theorem clSt_len (c : Nat) (ll : List (List Int)) (m s : Int) : ∀ i, i ≤ ll.length → (clSt c ll m s i).1.length ≤ i ∧ (clSt c ll m s i).2.length ≤ ll.length * i
  | 0, _ => by simp [clSt]
  | i + 1, hi => by
    have ih := clSt_len c ll m s i (by omega)
    have h := clsC_len c ll m s i (by omega)
    have e : ll.length * (i + 1) = ll.length * i + ll.length := by rw [Nat.mul_add, Nat.mul_one]
    unfold clSt
    split
    · omega
    · split
      · simp; omega
      · omega
end Go.Proofs.YtfndnaldgaaieaaGreatDoor
