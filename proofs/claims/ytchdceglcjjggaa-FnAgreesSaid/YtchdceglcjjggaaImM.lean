/- The program's agreeFamily and AgreeSets, by contract. Conditions: as stated. -/
import Derived.Test.YtchdceglcjjggaaFam
import Derived.Test.YtchdceglcjjggaaImG
import Derived.Test.YtchdceglcjjggaaImI
import Derived.Test.YtchdceglcjjggaaImL
namespace Go.Proofs.Ytchdceglcjjggaa
open Go.RowKit

/-- A slice is no longer than its room. -/
def CapOk (v : Value) : Prop := ∀ a n cap, v = .slice a n cap → n ≤ cap
theorem OwnSS.capOk {w : World} {B C : Nat} {v : Value} {ll : List (List Int)} (h : OwnSS w B C v ll) : CapOk v := by
  obtain ⟨V, ⟨-, h1⟩, -⟩ := h
  intro a n cap e
  rcases h1 with ⟨h2, -⟩ | ⟨g, cap', cur, h2, -, -, h3, -⟩
  · rw [h2] at e; cases e; exact Nat.le_refl _
  · rw [h2] at e; cases e; exact h3
theorem agrTo_nat (m : Int) (r s : List Int) (n : Nat) (h : n ≤ 5) : ∃ Y : Nat, agrTo m r s n = (Y : Int) ∧ Y < 32 := by
  obtain ⟨h0, h1⟩ := agrTo_bd m r s n
  refine ⟨(agrTo m r s n).toNat, by omega, ?_⟩
  rcases (show n = 0 ∨ n = 1 ∨ n = 2 ∨ n = 3 ∨ n = 4 ∨ n = 5 by omega) with rfl | rfl | rfl | rfl | rfl | rfl <;> simp at h1 <;> omega
def agFI (c : Nat) (ll : List (List Int)) (m : Int) (k : Nat) (f : Nat → Bool) : Nat → (Nat → Bool)
  | 0 => f
  | n + 1 => setF (agFI c ll m k f n) (agrTo m (ll.getD n []) (ll.getD k []) c).toNat true
def agFO (c : Nat) (ll : List (List Int)) (m : Int) : Nat → (Nat → Bool)
  | 0 => noF
  | k + 1 => agFI c ll m k (agFO c ll m k) k
def agF (c : Int) (ll : List (List Int)) (m : Int) : Nat → Bool := if fineT c ll m = true then agFO c.toNat ll m ll.length else noF

set_option maxHeartbeats 3200000 in
theorem agreeFam_any (c m : Int) (v : Value) (ll : List (List Int)) (w : World) (hr : ReadSS w v ll) (hl : ll.length ≤ 1048576) (ht : ∀ i, i < ll.length → (ll.getD i []).length ≤ 1048576) (hcap : CapOk v) :
    Calls Try.prog 43 #[.agg #[.int .i64 c, v], .int .i64 m] w fun e w' => e = .returned (.agg (famC (agF c ll m))) ∧ Below w.heap.size w w' := by
  have HO := Lib.hid (eqOf_any m)
  have HV := Lib.hid (fun w' (hb : Below w.heap.size w w') => implIsTable_any c v ll w' (hr.kept hb) hl ht)
  obtain ⟨a, cap, rfl, ha⟩ := hr
  have HA := Lib.hid ha
  have HCL := Lib.hid (hcap _ _ _ rfl)
  clear ha ht hcap
  obtain ⟨F, hF⟩ : ∃ F, eqFn m = F := ⟨_, rfl⟩
  have hb1 := (Below.refl w.heap.size w).alloc (Nat.le_refl _) (.cells #[.int .i64 c, .slice a ll.length cap] 26)
  have hr1 := Below.refl (w.alloc (.cells #[.int .i64 c, .slice a ll.length cap] 26)).heap.size (w.alloc (.cells #[.int .i64 c, .slice a ll.length cap] 26))
  have hr2 := hr1.alloc (Nat.le_refl _) (.cells (famC noF) 57)
  have hr3 := hr2.alloc hr2.size (.cells (famC noF) 57)
  have hF1 := FamAt.new (w.alloc (.cells #[.int .i64 c, .slice a ll.length cap] 26)) noF
  have hF1' := hF1.kept ((Below.refl _ _).alloc (Nat.le_refl _) (.cells (famC noF) 57)) hF1.lt
  have hF2' := FamAt.new ((w.alloc (.cells #[.int .i64 c, .slice a ll.length cap] 26)).alloc (.cells (famC noF) 57)) noF
  have HB3 := Lib.hid (hb1.trans (hr3.mono hb1.size))
  have HR3 := Lib.hid hr3
  have HF1 : Hid (FamAt _ (w.heap.size + 1) noF) := Lib.hid (by simpa using hF1')
  have HF2 : Hid (FamAt _ (w.heap.size + 1 + 1) noF) := Lib.hid (by simpa using hF2')
  obtain ⟨c0, c1⟩ := box2 hr3
  clear hb1 hr1 hr2 hr3 hF1 hF1' hF2'
  cases hm : modeOk m with
  | false =>
    have HE : Hid (agF c ll m = noF) := Lib.hid (by unfold agF fineT; rw [hm]; simp)
    rw [hm, hF] at HO
    clear hm hF
    go_enter Try.func43, Try.ntmps43
    go_wp2_with (refine wpList_alloc_fam rfl rfl ?_)
    refine (HO.out _).mono ?_
    rintro e w' ⟨rfl, rfl⟩
    go_wp2_with (first | refine wpList_load_fam rfl rfl rfl HF2.out ?_ | refine wpList_store_fam rfl rfl rfl rfl HF1.out ?_)
    refine bodyPost_ret (v := .agg (famC noF)) (results_cell_row rfl _ _ (w.heap.size + 1) 57 (famC noF) (0, 0) (.array 32 4) rfl (HF1.out.row noF) Try.underlying57 rfl (famSize noF)) rfl ⟨by rw [HE.out], below_setRow HB3.out (by omega) _⟩
  | true =>
    have hmm := modeOk_or hm
    cases hv : isT c ll with
    | false =>
      have HE : Hid (agF c ll m = noF) := Lib.hid (by unfold agF fineT; rw [hv]; simp)
      rw [hm, hF] at HO
      rw [hv] at HV
      clear hm hF hmm hv
      go_enter Try.func43, Try.ntmps43
      go_wp2_with (refine wpList_alloc_fam rfl rfl ?_)
      refine (HO.out _).mono ?_
      rintro e w' ⟨rfl, rfl⟩
      go_wp2_with fail
      refine (HV.out _ HB3.out).mono ?_
      rintro e w4 ⟨rfl, hb⟩
      have HG1 := Lib.hid (HF1.out.kept hb HF1.out.lt)
      have HG2 := Lib.hid (HF2.out.kept hb HF2.out.lt)
      have HB4 := Lib.hid (HB3.out.trans (hb.mono HB3.out.size))
      clear hb
      go_wp2_with (first | refine wpList_load_fam rfl rfl rfl HG2.out ?_ | refine wpList_store_fam rfl rfl rfl rfl HG1.out ?_)
      refine bodyPost_ret (v := .agg (famC noF)) (results_cell_row rfl _ _ (w.heap.size + 1) 57 (famC noF) (0, 0) (.array 32 4) rfl (HG1.out.row noF) Try.underlying57 rfl (famSize noF)) rfl ⟨by rw [HE.out], below_setRow HB4.out (by omega) _⟩
    | true =>
      obtain ⟨hc1, hc5, h40⟩ := isT_bd hv
      have HROW := Lib.hid (fun k hk => (isT_row hv (k := k) hk).1)
      have HE : Hid (agF c ll m = agFO c.toNat ll m ll.length) := Lib.hid (by unfold agF fineT; rw [hv, hm]; simp)
      rw [hm, hF] at HO
      rw [hv] at HV
      obtain ⟨C, rfl⟩ : ∃ C : Nat, c = (C : Int) := ⟨c.toNat, by omega⟩
      rw [show ((C : Int)).toNat = C by omega] at HE
      have HG := Lib.hid (fun i k u u' w' (hi : i < ll.length) (hk : k < ll.length) (hu : ReadI w' u (ll.getD i [])) (hu' : ReadI w' u' (ll.getD k [])) => agreement_any m hmm u u' (ll.getD i []) (ll.getD k []) w' hu hu' (by have := HROW.out i hi; omega) (by have := HROW.out i hi; have := HROW.out k hk; omega))
      rw [hF] at HG
      clear hm hF hmm hv
      go_enter Try.func43, Try.ntmps43
      go_wp2_with (refine wpList_alloc_fam rfl rfl ?_)
      refine (HO.out _).mono ?_
      rintro e w' ⟨rfl, rfl⟩
      go_wp2_with fail
      refine (HV.out _ HB3.out).mono ?_
      rintro e w4 ⟨rfl, hb⟩
      have HG1 := Lib.hid (HF1.out.kept hb HF1.out.lt)
      have HG2 := Lib.hid (HF2.out.kept hb HF2.out.lt)
      have HB4 := Lib.hid (HB3.out.trans (hb.mono HB3.out.size))
      have HR4 := Lib.hid (HR3.out.trans (hb.mono HR3.out.size))
      clear hb c0 c1
      obtain ⟨c0, c1⟩ := box2 HR4.out
      have HSZ : Hid (w.heap.size + 2 < w4.heap.size) := Lib.hid HG2.out.lt
      go_wp2_with fail
      go_loopw [28] (fun iv wr => ∃ (k : Nat), k ≤ ll.length ∧ iv = .int .i64 (k : Int) ∧ FamAt wr (w.heap.size + 1 + 1) (agFO C ll m k) ∧ Below (w.heap.size + 2) w4 wr) (fun iv _ => ll.length - (intOf iv).toNat)
      case atStart => exact ⟨0, by omega, rfl, HG2.out, Below.refl _ _⟩
      case round =>
        obtain ⟨k, hk, rfl, hf, hb⟩ := hrel
        have HFK := Lib.hid hf
        have HBK := Lib.hid hb
        clear hf hb c0 c1
        have HRK := Lib.hid (HR4.out.trans (HBK.out.mono (show (w.alloc (.cells #[.int .i64 (C : Int), .slice a ll.length cap] 26)).heap.size ≤ w.heap.size + 2 by simp)))
        obtain ⟨c0, c1⟩ := box2 HRK.out
        have HBWK := Lib.hid (HB4.out.trans (HBK.out.mono (by omega)))
        have HG1K := Lib.hid (HG1.out.kept HBK.out (by omega))
        by_cases hlt : k < ll.length
        · have z0 : (0 : Int) ≤ (k : Int) := by omega
          have z1 : (k : Int) < (ll.length : Int) := by omega
          obtain ⟨x, u, rfl, hx, hu⟩ := HA.out k hlt
          have hy := (HBWK.out.cell (World.block_lt_of_cell? w _ hx)).trans hx
          have HU := Lib.hid hu
          clear hx hu
          have HS : Hid (agFO C ll m (k + 1) = agFI C ll m k (agFO C ll m k) k) := Lib.hid rfl
          obtain ⟨g, hg⟩ : ∃ g, g = agFO C ll m k := ⟨_, rfl⟩
          rw [← hg] at HFK HS
          clear hg
          obtain ⟨wi, rfl⟩ : ∃ wi : World, wi = wr := ⟨_, rfl⟩
          have hkc : k ≤ cap := by have := HCL.out; omega
          have hcz : ¬ cap = 0 := by have := HCL.out; omega
          go_wp2_with fail
          go_loopw [38] (fun jv wr => ∃ (j : Nat), j ≤ k ∧ jv = .int .i64 (j : Int) ∧ FamAt wr (w.heap.size + 1 + 1) (agFI C ll m k g j) ∧ Below (w.heap.size + 2) w4 wr) (fun jv _ => k - (intOf jv).toNat)
          case atStart => exact ⟨0, by omega, rfl, HFK.out, HBK.out⟩
          case round =>
            obtain ⟨j, hj, rfl, hf, hb⟩ := hrel
            have HFJ := Lib.hid hf
            have HBJ := Lib.hid hb
            clear hf hb hy
            by_cases hlt' : j < k
            · have HBWJ := Lib.hid (HB4.out.trans (HBJ.out.mono (show w.heap.size ≤ w.heap.size + 2 by omega)))
              have q0 : (0 : Int) ≤ (j : Int) := by omega
              have q1 : (j : Int) < (k : Int) := by omega
              have hjl : j < ll.length := by omega
              obtain ⟨x', u', hx', hxj, hu'⟩ := HA.out j hjl
              obtain rfl := Option.some.inj hx'
              have hz := (HBWJ.out.cell (World.block_lt_of_cell? w _ hxj)).trans hxj
              have HQ := HG.out j k u' u wr hjl hlt (hu'.kept HBWJ.out) (HU.out.kept HBWJ.out)
              rw [show (ll.getD j []).length = C by have := HROW.out j hjl; omega] at HQ
              have HS2 : Hid (agFI C ll m k g (j + 1) = setF (agFI C ll m k g j) (agrTo m (ll.getD j []) (ll.getD k []) C).toNat true) := Lib.hid rfl
              obtain ⟨Y, hY, hY32⟩ := agrTo_nat m (ll.getD j []) (ll.getD k []) C (by omega)
              rw [hY] at HQ HS2
              rw [show ((Y : Int)).toNat = Y by omega] at HS2
              have HQ := Lib.hid HQ
              have y0 : (0 : Int) ≤ (Y : Int) := by omega
              have y1 : (Y : Int) < 32 := by omega
              clear hY hxj hx' hu'
              go_wp2_with fail
              refine HQ.out.mono ?_
              rintro e w' ⟨rfl, n, rfl⟩
              have hdn := below_drewN (Below.refl (w.heap.size + 2 + 1) wr) n
              have HFJ' := Lib.hid (HFJ.out.kept hdn (by omega))
              have HBJ' := Lib.hid (below_drewN HBJ.out n)
              have hcy := HFJ'.out.cell Y hY32
              have hfy := HFJ'.out.frozen Y
              clear hdn
              obtain ⟨wd, hwd⟩ : ∃ wd, wd = wr.drewN n := ⟨_, rfl⟩
              rw [← hwd] at HFJ' HBJ' hcy hfy ⊢
              clear hwd hz
              go_wp2_with fail
              go_roundw
              case rel => exact ⟨j + 1, by omega, by go_num, by rw [HS2.out]; exact HFJ'.out.set Y true, HBJ'.out.setCell (by show w.heap.size + 2 ≤ w.heap.size + 1 + 1; omega) _⟩
              case measure => simp [intOf]; omega
            · obtain rfl : j = k := by omega
              have HFJ' := Lib.hid (HS.out.symm ▸ HFJ.out : FamAt wr (w.heap.size + 1 + 1) (agFO C ll m (j + 1)))
              go_wp2_with fail
              go_roundw
              case rel => exact ⟨j + 1, by omega, by go_num, HFJ'.out, HBJ.out⟩
              case measure => simp [intOf]; omega
        · obtain rfl : k = ll.length := by omega
          go_wp2_with (first | refine wpList_load_fam rfl rfl rfl HFK.out ?_ | refine wpList_store_fam rfl rfl rfl rfl HG1K.out ?_)
          refine bodyPost_ret (v := .agg (famC (agFO C ll m ll.length))) (results_cell_row rfl _ _ (w.heap.size + 1) 57 (famC (agFO C ll m ll.length)) (0, 0) (.array 32 4) rfl (HG1K.out.row _) Try.underlying57 rfl (famSize _)) rfl ⟨by rw [HE.out], below_setRow HBWK.out (by omega) _⟩
end Go.Proofs.Ytchdceglcjjggaa
