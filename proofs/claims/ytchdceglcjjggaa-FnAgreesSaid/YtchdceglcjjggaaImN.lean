/- The program's AgreeSets and DifferenceSets, by contract. Conditions: as stated. -/
import Derived.Test.YtchdceglcjjggaaImM
import Derived.Test.YtchdceglcjjggaaAgrF
namespace Go.Proofs.Ytchdceglcjjggaa
open Go.RowKit

set_option maxHeartbeats 1600000 in
theorem implAgreeSets_any (c m : Int) (v : Value) (ll : List (List Int)) (w : World) (hr : ReadSS w v ll) (hl : ll.length ≤ 1048576) (ht : ∀ i, i < ll.length → (ll.getD i []).length ≤ 1048576) (hcap : CapOk v) :
    Calls Try.prog 13 #[.agg #[.int .i64 c, v], .int .i64 m] w (RetI (lstF (agF c ll m)) w) := by
  have hb1 := (Below.refl w.heap.size w).alloc (Nat.le_refl _) (.cells #[.int .i64 c, v] 26)
  have HA := Lib.hid (agreeFam_any c m v ll (w.alloc (.cells #[.int .i64 c, v] 26)) (hr.kept hb1) hl ht hcap)
  have HB1 := Lib.hid hb1
  obtain ⟨a, cap, rfl, -⟩ := hr
  clear hb1
  obtain ⟨f, hf⟩ : ∃ f, f = agF c ll m := ⟨_, rfl⟩
  rw [← hf] at HA ⊢
  clear hf hcap ht
  have HL := Lib.hid (famList_any f)
  go_enter Try.func13, Try.ntmps13
  go_wp2_with fail
  refine HA.out.mono ?_
  rintro e w2 ⟨rfl, hb⟩
  have hb2 := HB1.out.trans (hb.mono HB1.out.size)
  clear hb
  go_wp2_with fail
  refine (HL.out w2).mono ?_
  rintro e w' ⟨u, rfl, ho, hb⟩
  have hb3 := hb2.trans (hb.mono hb2.size)
  go_wp2_with fail
  go_ret
  exact ⟨_, rfl, ho.base hb2.size, hb3⟩

/-- The value that a set is answered by: the other columns that are not in it. -/
def dfN (C Q s : Nat) : Nat := (difV C Q (s : Int)).toNat
theorem dfN_fin : ∀ (C : Fin 6) (Q : Fin 5) (s : Fin 32), Q.val < C.val → bits .andNot .i64 (bits .andNot .i64 (2 ^ C.val - 1) (wrap64 (2 ^ Q.val))) (s.val : Int) = (dfN C.val Q.val s.val : Int) ∧ dfN C.val Q.val s.val < 32 := by
  decide +kernel
theorem dfN_eq (C Q s : Nat) (hC : C ≤ 5) (hQ : Q < C) (hs : s < 32) : bits .andNot .i64 (bits .andNot .i64 (2 ^ C - 1) (wrap64 (2 ^ Q))) (s : Int) = (dfN C Q s : Int) ∧ dfN C Q s < 32 :=
  dfN_fin ⟨C, by omega⟩ ⟨Q, by omega⟩ ⟨s, hs⟩ hQ
def dfTo (C Q : Nat) (g : Nat → Bool) : Nat → (Nat → Bool)
  | 0 => noF
  | s + 1 => if (g s && !bitB s Q) = true then setF (dfTo C Q g s) (dfN C Q s) true else dfTo C Q g s
def dfS (c : Int) (ll : List (List Int)) (m q : Int) : List Int := if colB c ll q = true then lstF (dfTo c.toNat q.toNat (agF c ll m) 32) else []
set_option maxHeartbeats 3200000 in
theorem implDifferenceSets_any (c m q : Int) (v : Value) (ll : List (List Int)) (w : World) (hr : ReadSS w v ll) (hl : ll.length ≤ 1048576) (ht : ∀ i, i < ll.length → (ll.getD i []).length ≤ 1048576) (hcap : CapOk v) :
    Calls Try.prog 14 #[.agg #[.int .i64 c, v], .int .i64 m, .int .i64 q] w (RetI (dfS c ll m q) w) := by
  have hb1 := (Below.refl w.heap.size w).alloc (Nat.le_refl _) (.cells #[.int .i64 c, v] 26)
  have HB1 := Lib.hid hb1
  have HC := Lib.hid (hasColumn_any c q v ll (w.alloc (.cells #[.int .i64 c, v] 26)) (hr.kept hb1) hl ht)
  have HA := Lib.hid (fun w' (hb : Below w.heap.size w w') => agreeFam_any c m v ll w' (hr.kept hb) hl ht hcap)
  have HRF := Lib.hid (Below.refl (w.alloc (.cells #[.int .i64 c, v] 26)).heap.size (w.alloc (.cells #[.int .i64 c, v] 26)))
  obtain ⟨a, cap, rfl, -⟩ := hr
  clear hb1 ht hcap
  cases hq : colB c ll q with
  | false =>
    have HE : Hid (dfS c ll m q = []) := Lib.hid (by unfold dfS; rw [hq]; rfl)
    rw [hq] at HC
    clear hq
    go_enter Try.func14, Try.ntmps14
    go_wp2_with fail
    refine HC.out.mono ?_
    rintro e w2 ⟨rfl, hb⟩
    have hb2 := HB1.out.trans (hb.mono HB1.out.size)
    go_wp2_with fail
    go_ret
    exact ⟨_, rfl, by rw [HE.out]; exact World.ownsRow_nil _ _ _ _, hb2⟩
  | true =>
    have HE : Hid (dfS c ll m q = lstF (dfTo c.toNat q.toNat (agF c ll m) 32)) := Lib.hid (by unfold dfS; rw [hq]; rfl)
    have hT : isT c ll = true ∧ 0 ≤ q ∧ q ≤ c - 1 := by simpa [colB] using hq
    obtain ⟨hc1, hc5, -⟩ := isT_bd hT.1
    rw [hq] at HC
    obtain ⟨C, rfl⟩ : ∃ C : Nat, c = (C : Int) := ⟨c.toNat, by omega⟩
    obtain ⟨Q, rfl⟩ : ∃ Q : Nat, q = (Q : Int) := ⟨q.toNat, by omega⟩
    have hQC : Q < C := by omega
    rw [show ((C : Int)).toNat = C by omega, show ((Q : Int)).toNat = Q by omega] at HE
    have HFC := Lib.hid (fun n => (first_any (C : Int) (w := n) (by omega) (by omega)))
    rw [show ((C : Int)).toNat = C by omega] at HFC
    obtain ⟨g, hg⟩ : ∃ g, g = agF (C : Int) ll m := ⟨_, rfl⟩
    rw [← hg] at HE HA
    have HH := Lib.hid (fun s w' => has_any s Q (by omega) w')
    clear hg hq hT
    go_enter Try.func14, Try.ntmps14
    go_wp2_with fail
    refine HC.out.mono ?_
    rintro e w2 ⟨rfl, hb⟩
    have HB2 := Lib.hid (HB1.out.trans (hb.mono HB1.out.size))
    have HR2 := Lib.hid (HRF.out.trans (hb.mono HRF.out.size))
    obtain ⟨c0, c1⟩ := box2 HR2.out
    clear hb
    have hq0 : ¬ ((Q : Int) < 0) := by omega
    have HQF := Lib.hid (fun n => ((HFC.out (w2.drewN n)).mono fun e w' (h : e = _ ∧ _ = w') => And.intro h.1 h.2.symm))
    go_wp2_with fail
    go_quiet ((go_at_call 46; exact Calls.quiet_of_same (HQF.out _)))
    have HR3 := Lib.hid ((below_drewN HR2.out nq).alloc (below_drewN HR2.out nq).size (.cells (famC noF) 57))
    have HB3 := Lib.hid ((below_drewN HB2.out nq).alloc (below_drewN HB2.out nq).size (.cells (famC noF) 57))
    have HF3 : Hid (FamAt _ w2.heap.size noF) := Lib.hid (by have := FamAt.new (w2.drewN nq) noF; simpa using this)
    obtain ⟨O, hO⟩ : ∃ O : Int, O = bits .andNot .i64 (2 ^ C - 1) (wrap64 (2 ^ Q)) := ⟨_, rfl⟩
    rw [← hO]
    have HO := Lib.hid hO
    clear hO c0 c1
    obtain ⟨c0, c1⟩ := box2 HR3.out
    obtain ⟨cs, hcs⟩ : ∃ cs, cs = famC g := ⟨_, rfl⟩
    rw [← hcs] at HA
    have HCS := Lib.hid hcs
    clear hcs
    go_wp2_with (refine wpList_alloc_fam rfl rfl ?_)
    refine (HA.out _ HB3.out).mono ?_
    rintro e w4 ⟨rfl, hb⟩
    have HB4 := Lib.hid (HB3.out.trans (hb.mono HB3.out.size))
    have HF4 := Lib.hid (HF3.out.kept hb HF3.out.lt)
    have HG := Lib.hid (show w.heap.size ≤ w2.heap.size from HB2.out.size)
    clear hb c0 c1
    go_wp2_with fail
    go_loopw [25] (fun iv wr => ∃ (s : Nat), s ≤ 32 ∧ iv = .int .i64 (s : Int) ∧ FamAt wr w2.heap.size (dfTo C Q g s) ∧ Below w.heap.size w wr) (fun iv _ => 32 - (intOf iv).toNat)
    case atStart => exact ⟨0, by omega, rfl, HF4.out, HB4.out⟩
    case round =>
      obtain ⟨s, hs, rfl, hf, hb⟩ := hrel
      have HFS := Lib.hid hf
      have HBS := Lib.hid hb
      clear hf hb
      by_cases hlt : s < 32
      · have z0 : (0 : Int) ≤ (s : Int) := by omega
        have z1 : (s : Int) < 32 := by omega
        have hidx := run_index_fam cs g HCS.out s hlt
        have HS : Hid (dfTo C Q g (s + 1) = if (g s && !bitB s Q) = true then setF (dfTo C Q g s) (dfN C Q s) true else dfTo C Q g s) := Lib.hid rfl
        have HHS := Lib.hid (HH.out s)
        obtain ⟨hN, hN32⟩ := dfN_eq C Q s (by omega) hQC hlt
        rw [← HO.out] at hN
        obtain ⟨N, hNN⟩ : ∃ N, N = dfN C Q s := ⟨_, rfl⟩
        rw [← hNN] at hN hN32 HS
        have y0 : (0 : Int) ≤ (N : Int) := by omega
        have y1 : (N : Int) < 32 := by omega
        have hcy := HFS.out.cell N hN32
        have hfy := HFS.out.frozen N
        clear hNN
        cases hg : g s with
        | true =>
          rw [hg] at hidx HS
          cases hbt : bitB s Q with
          | true =>
            rw [hbt] at HS HHS
            clear hg hbt
            go_wp2_with fail
            refine (HHS.out _).mono ?_
            rintro e w' ⟨rfl, rfl⟩
            go_wp2_with fail
            go_roundw
            case rel => exact ⟨s + 1, by omega, by go_num, by rw [HS.out]; exact HFS.out, HBS.out⟩
            case measure => simp [intOf]; omega
          | false =>
            rw [hbt] at HS HHS
            clear hg hbt
            go_wp2_with fail
            refine (HHS.out _).mono ?_
            rintro e w' ⟨rfl, rfl⟩
            go_wp2_with fail
            go_roundw
            case rel => exact ⟨s + 1, by omega, by go_num, by rw [HS.out]; exact HFS.out.set N true, HBS.out.setCell (by show w.heap.size ≤ w2.heap.size; exact HG.out) _⟩
            case measure => simp [intOf]; omega
        | false =>
          rw [hg] at hidx HS
          clear hg
          go_wp2_with fail
          go_roundw
          case rel => exact ⟨s + 1, by omega, by go_num, by rw [HS.out]; exact HFS.out, HBS.out⟩
          case measure => simp [intOf]; omega
      · obtain rfl : s = 32 := by omega
        have HL := Lib.hid (famList_any (dfTo C Q g 32) wr)
        go_wp2_with (refine wpList_load_fam rfl rfl rfl HFS.out ?_)
        refine HL.out.mono ?_
        rintro e w' ⟨u, rfl, ho, hb⟩
        have hb' := HBS.out.trans (hb.mono HBS.out.size)
        go_wp2_with fail
        go_ret
        exact ⟨_, rfl, by rw [HE.out]; exact ho.base HBS.out.size, hb'⟩
end Go.Proofs.Ytchdceglcjjggaa
