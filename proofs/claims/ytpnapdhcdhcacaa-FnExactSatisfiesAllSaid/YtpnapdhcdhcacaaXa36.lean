/- Texts of this claim, merged: ImE, PcF, AxA, ExB, DepO. Conditions: as stated. -/
import Derived.Test.YtpnapdhcdhcacaaXa23
import Derived.Test.YtpnapdhcdhcacaaPcCm
import Derived.Test.YtpnapdhcdhcacaaXa17
import Derived.Test.YtpnapdhcdhcacaaAxRm
import Derived.Test.YtpnapdhcdhcacaaExAm
import Derived.Test.YtpnapdhcdhcacaaXa2
import Derived.Test.YtpnapdhcdhcacaaXa13
import Derived.Lib.SmallJoins
import Derived.Deep.SlicePairs
namespace Go.Proofs.Ytpnapdhcdhcacaa
open Go.RowKit

end Go.Proofs.Ytpnapdhcdhcacaa
namespace Go.Proofs.Ytpnapdhcdhcacaa
open Go.RowKit

section
set_option maxRecDepth 20000
set_option maxHeartbeats 6400000
theorem ixZ_closed (l : List (Int × Int)) (x : Nat) : clB l x = decide (ixZ (fun d : Int × Int => subN d.1.toNat x && !bitB x d.2.toNat) l < 0) := by
  rw [ixZ_neg]
  unfold clB
  congr 1
  funext d
  cases subN d.1.toNat x <;> cases bitB x d.2.toNat <;> rfl
theorem implClosedSets_any (v : Value) (n : Int) (l : List (Int × Int)) (_w0 : (Lit.int .i64 n).wf = true) (bd : ∀ d ∈ l, (Lit.int .i64 d.1).wf = true ∧ (Lit.int .i64 d.2).wf = true) (w : World) (hr : ReadD w v l) (hl : l.length ≤ 1048576) :
    Calls Try.prog 33 #[.int .i64 n, v] w (RetI (clsL n l) w) := by
  obtain ⟨i0, hi, hz0, hz1, hz2⟩ := info_parts info3i
  have HI : Hid (_ ∧ _ ∧ _ ∧ _) := Lib.hid ⟨hi, hz0, hz1, hz2⟩
  clear hi hz0 hz1 hz2
  have HAD := Lib.hid (implAreDeps_any v n l _w0 bd w hr hl)
  clear bd
  cases ha : arD n l with
  | false =>
    rw [ha] at HAD
    have HE : Hid (clsL n l = []) := Lib.hid (by unfold clsL; rw [ha]; rfl)
    obtain ⟨a, cap, rfl, -⟩ := hr
    clear ha
    go_enter Try.func33, Try.ntmps33
    go_wp2_with fail
    refine HAD.out.mono ?_
    rintro e w2 ⟨rfl, b2⟩
    go_wp2_with fail
    go_ret
    exact ⟨_, rfl, by rw [HE.out]; exact (World.ownsRow_nil _ _ _ _ : OwnI w2 w.heap.size (.slice .none 0 0) []), b2⟩
  | true =>
    rw [ha] at HAD
    obtain ⟨C, rfl, hC1, hC5, -, hd⟩ := arD_n ha
    have HE : Hid (clsL (C : Int) l = brdTo (clB l) (2 ^ C)) := Lib.hid (by unfold clsL; rw [ha]; rfl)
    have HC := Lib.hid (fun (x : Nat) (hx : x < 32) w' (hb : Below w.heap.size w w') => firstEnl_any C hC5 v l hd x hx w' (hr.kept hb) hl)
    have HCL := Lib.hid (fun (x : Nat) => ixZ_closed l x)
    have HBS : Hid (∀ x : Nat, brdTo (clB l) (x + 1) = if clB l x = true then brdTo (clB l) x ++ [(x : Int)] else brdTo (clB l) x) := Lib.hid (fun _ => rfl)
    have HBL := Lib.hid (brd_len (clB l))
    obtain ⟨M, hM, hM31, hMZ⟩ : ∃ M : Nat, M + 1 = 2 ^ C ∧ M ≤ 31 ∧ ((2 : Int) ^ C - 1) = (M : Int) := by
      have h32 := two5 hC5
      have hp : 0 < 2 ^ C := Nat.pow_pos (by omega)
      have hz : ((2 ^ C : Nat) : Int) = (2 : Int) ^ C := by rw [Int.natCast_pow]; rfl
      exact ⟨2 ^ C - 1, by omega, by omega, by omega⟩
    have HAL : Hid (∀ w', Calls Try.prog 68 #[.int .i64 (C : Int)] w' fun e w'' => e = .returned (.int .i64 (M : Int)) ∧ w' = w'') := Lib.hid (fun w' => by have h := first_any (C : Int) w' (by omega) (by omega); rw [show ((C : Int)).toNat = C from rfl, hMZ] at h; exact h)
    rw [← hM] at HE
    obtain ⟨a, cap, rfl, -⟩ := hr
    clear ha hd hM hMZ
    go_enter Try.func33, Try.ntmps33
    go_wp2_with fail
    refine HAD.out.mono ?_
    rintro e w2 ⟨rfl, b2⟩
    have HB2 := Lib.hid b2
    clear b2
    go_wp2_with fail
    go_loopw [5, 6] (fun ov xv wr => ∃ x : Nat, x ≤ M + 1 ∧ xv = .int .i64 (x : Int) ∧ Hid (OwnI wr w.heap.size ov (brdTo (clB l) x)) ∧ Hid (Below w.heap.size w wr)) (fun _ xv _ => M + 1 - (intOf xv).toNat)
    case atStart => exact ⟨0, by omega, rfl, Lib.hid (World.ownsRow_nil _ _ _ _ : OwnI w2 w.heap.size (.slice .none 0 0) []), HB2⟩
    case round =>
      clear HB2
      obtain ⟨x, hx, rfl, HO, HB⟩ := hrel
      obtain ⟨w3, hw⟩ : ∃ w', w' = wr := ⟨_, rfl⟩
      rw [← hw] at HO HB ⊢
      clear hw
      have hql := HBL.out x
      have hbs := HBS.out x
      obtain ⟨q, hq⟩ : ∃ q, q = brdTo (clB l) x := ⟨_, rfl⟩
      rw [← hq] at HO hql hbs
      have z0 : (0 : Int) ≤ (x : Int) := by omega
      by_cases hlt : x ≤ M
      · have z1 : (x : Int) ≤ (M : Int) := by omega
        have hcl := HCL.out x
        have HCX := Lib.hid (HC.out x (by omega))
        obtain ⟨y, hy⟩ : ∃ y, y = ixZ (fun d : Int × Int => subN d.1.toNat x && !bitB x d.2.toNat) l := ⟨_, rfl⟩
        rw [← hy] at hcl HCX
        have HBSX := Lib.hid hbs
        clear hq hy hbs
        go_wp2_with fail
        refine (HAL.out _).mono ?_
        rintro e w' ⟨rfl, rfl⟩
        go_wp2_with fail
        refine (HCX.out _ HB.out).mono ?_
        rintro e w5 ⟨rfl, b5⟩
        have HO5 := Lib.hid (HO.out.kept b5 (fun k hk => (OwnI.lt HO.out k hk).2))
        have HB5 := Lib.hid (HB.out.trans (b5.mono HB.out.size))
        clear b5
        cases hc : clB l x with
        | true =>
          rw [hc] at hcl HBSX
          have hneg : y < 0 := by simpa using hcl.symm
          have ho6 := HO5.out
          clear hc hcl
          go_wp2_with (at_builtin; refine wpList_append_own _ rfl _ _ 47 rfl w.heap.size 3 i0 (.int .i64 0) 1 8 Try.underlying47 HI.out.1 HI.out.2.1 HI.out.2.2.1 HI.out.2.2.2 rfl (by decide) _ _ _ rfl (World.ownsRow.alloc ho6 _) ⟨w5.heap.size, 0, none⟩ 1 1 [.int .i64 (x : Int)] rfl rfl (cell_one_new _ _ _) (one_i64 _) (by unfold maxLen; omega) (by omega) (by have := HB5.out.size; simp; omega) ?_; intro v7 w7 hown7 hgrow7 _; have HO7 := Lib.hid (OwnI.snoc hown7); have HB7 := Lib.hid ((HB5.out.alloc HB5.out.size (.cells #[.int .i64 (x : Int)] 3)).grown hgrow7 (by rw [World.size_alloc]; have := HB5.out.size; omega) (fun k hk => (OwnI.lt HO5.out k hk).1)); clear hown7 hgrow7 ho6)
          go_roundw
          case rel => exact ⟨x + 1, by omega, by go_num, by rw [HBSX.out, if_pos (by first | trivial | rfl)]; exact HO7, HB7⟩
          case measure => simp [intOf]; omega
        | false =>
          rw [hc] at hcl HBSX
          have hneg : ¬ y < 0 := fun h => by rw [decide_eq_true h] at hcl; cases hcl
          clear hc hcl
          go_wp2_with fail
          go_roundw
          case rel => exact ⟨x + 1, by omega, by go_num, by rw [HBSX.out, if_neg (by decide)]; exact HO5, HB5⟩
          case measure => simp [intOf]; omega
      · obtain rfl : x = M + 1 := by omega
        rw [hq] at HO
        have zM : ¬ (((M + 1 : Nat) : Int) ≤ (M : Int)) := by omega
        clear hq hql hbs
        go_wp2_with fail
        refine (HAL.out _).mono ?_
        rintro e w' ⟨rfl, rfl⟩
        go_wp2_with fail
        go_ret
        exact ⟨_, rfl, by rw [HE.out]; exact HO.out, HB.out⟩
end
end Go.Proofs.Ytpnapdhcdhcacaa
namespace Go.Proofs.Ytpnapdhcdhcacaa
open Go.RowKit

/-- A row read up to some place. -/
theorem ReadI.pre {w : World} {a : Option Addr} {n cap : Nat} {A B : List Int} (h : ReadI w (.slice a n cap) (A ++ B)) : ReadI w (.slice a A.length cap) A := by
  obtain ⟨a', cap', e, hc⟩ := h
  cases e
  refine ⟨a, cap, rfl, fun i hi => ?_⟩
  obtain ⟨x, hx, h⟩ := hc i (by rw [List.length_append]; omega)
  exact ⟨x, hx, by rw [List.getElem_append_left hi] at h; exact h⟩
theorem ownI_cap {w : World} {B n c : Nat} {a : Option Addr} {l : List Int} (h : OwnI w B (.slice a n c) l) : l.length ≤ c := by
  rcases h.2 with ⟨e, h0⟩ | ⟨g, cap, cur, e, -, -, hn, -⟩
  · rw [h0]; exact Nat.zero_le _
  · cases e; exact hn
section
set_option maxRecDepth 20000
set_option maxHeartbeats 3200000
theorem implArm_any (v : Value) (n : Int) (l : List (Int × Int)) (_w0 : (Lit.int .i64 n).wf = true) (bd : ∀ d ∈ l, (Lit.int .i64 d.1).wf = true ∧ (Lit.int .i64 d.2).wf = true) (w : World) (hr : ReadD w v l) (hl : l.length ≤ 1048576) :
    Calls Try.prog 10 #[.int .i64 n, v] w (RetTB (armC n l) (armL n l) (arD n l) w) := by
  have hb1 := (Below.refl w.heap.size w).alloc (Nat.le_refl _) (.cells #[.int .i64 0, .slice none 0 0] 26)
  have HT1 := Lib.hid (bxt_new w 0 (.slice none 0 0))
  have HB1 := Lib.hid hb1
  have HAD := Lib.hid (fun w' (hb : Below w.heap.size w w') => implAreDeps_any v n l _w0 bd w' (hr.kept hb) hl)
  have HCS := Lib.hid (fun w' (hb : Below w.heap.size w w') => implClosedSets_any v n l _w0 bd w' (hr.kept hb) hl)
  clear hb1
  cases ha : arD n l with
  | false =>
    rw [ha] at HAD
    have HE : Hid (armC n l = 0 ∧ armL n l = []) := Lib.hid ⟨by unfold armC; rw [ha]; rfl, by unfold armL; rw [ha]; rfl⟩
    obtain ⟨a, cap, rfl, -⟩ := hr
    clear ha HCS bd
    go_enter Try.func10, Try.ntmps10
    go_wp2_with fail
    refine (HAD.out _ HB1.out).mono ?_
    rintro e w3 ⟨rfl, b3⟩
    have HB3 := Lib.hid (HB1.out.trans (b3.mono HB1.out.size))
    have hz9 := HT1.out.keep b3
    have d0 := hz9.c0
    have d1 := hz9.c1
    have e0 := hz9.f0
    have e1 := hz9.f1
    have hf := hz9.put (c' := 0) (v := .slice none 0 0)
    have HR := Lib.hid (And.intro hf.c0 hf.c1)
    have HBE := Lib.hid ((HB3.out.setCell (p := ⟨w.heap.size, 0, none⟩) (Nat.le_refl _) (.int .i64 0)).setCell (p := ⟨w.heap.size, 1, none⟩) (Nat.le_refl _) (.slice none 0 0))
    clear hz9 hf b3
    go_wp2_with fail
    exact bodyPost_ret (v := .tuple #[.agg #[.int .i64 0, .slice none 0 0], .bool false]) (by simp [results, Try.results10, go_sem, HR.out.1, HR.out.2]) rfl ⟨_, by rw [HE.out.1], by rw [HE.out.2]; exact OwnSS.nil _ _ _, HBE.out⟩
  | true =>
    rw [ha] at HAD
    obtain ⟨C, rfl, hC1, hC5, -, hdl⟩ := arD_n ha
    obtain ⟨A, hA, hAb⟩ := cls_split ha
    have h32 := two5 hC5
    have HE : Hid (armC (C : Int) l = (C : Int) ∧ armL (C : Int) l = List.replicate C 0 :: rowsA C (zpN (fun j => (A.getD j 0).toNat) A.length)) := Lib.hid ⟨by unfold armC; rw [ha]; rfl, arm_rows ha hA hAb⟩
    have hcl := cls_len (C : Int) l
    rw [hA] at HCS hcl
    rw [List.length_append, List.length_singleton] at hcl
    have HTA := Lib.hid (fun u w' (hu : ReadI w' u A) => tableI_any C hC5 u A (fun x hx => by
      obtain ⟨X, e, hX⟩ := hAb x hx
      exact ⟨X, e, by omega⟩) w' hu (by omega))
    obtain ⟨L, hL⟩ : ∃ L, L = List.replicate C 0 :: rowsA C (zpN (fun j => (A.getD j 0).toNat) A.length) := ⟨_, rfl⟩
    rw [← hL] at HE HTA
    obtain ⟨M, hM⟩ : ∃ M : Int, M = ((2 ^ C - 1 : Nat) : Int) := ⟨_, rfl⟩
    rw [← hM] at HCS
    obtain ⟨a, cap, rfl, -⟩ := hr
    clear ha hdl hL hM hA hAb bd h32
    go_enter Try.func10, Try.ntmps10
    go_wp2_with fail
    refine (HAD.out _ HB1.out).mono ?_
    rintro e w3 ⟨rfl, b3⟩
    have HB3 := Lib.hid (HB1.out.trans (b3.mono HB1.out.size))
    have HT3 := Lib.hid (HT1.out.keep b3)
    clear b3 HB1 HT1
    go_wp2_with fail
    refine (HCS.out _ HB3.out).mono ?_
    rintro e w4 ⟨v4, rfl, o4, b4⟩
    have HB4 := Lib.hid (HB3.out.trans (b4.mono HB3.out.size))
    have HT4 := Lib.hid (HT3.out.keep b4)
    obtain ⟨a4, c4, rfl, -⟩ := o4.read
    have HR4 := Lib.hid (ReadI.pre o4.read)
    have hcap := ownI_cap o4
    rw [List.length_append, List.length_singleton] at hcap
    have z0 : (0 : Int) ≤ (A.length : Int) := by omega
    have z1 : (A.length : Int) ≤ (c4 : Int) := by omega
    clear b4 o4 HB3 HT3 hcap
    go_wp2_with fail
    refine (HTA.out _ _ HR4.out).mono ?_
    rintro e w5 ⟨v5, rfl, o5, b5⟩
    have HB5 := Lib.hid (HB4.out.trans (b5.mono HB4.out.size))
    have hz9 := HT4.out.keep b5
    have HOE := Lib.hid (tab_end (N := w4.heap.size) o5 HB5.out HT4.out.lt (C : Int))
    obtain ⟨p5, k5, n5, rfl⟩ := ownSS_form o5
    have d0 := hz9.c0
    have d1 := hz9.c1
    have e0 := hz9.f0
    have e1 := hz9.f1
    have hf := hz9.put (c' := (C : Int)) (v := .slice p5 n5 k5)
    have HR := Lib.hid (And.intro hf.c0 hf.c1)
    clear hz9 hf b5 o5 HT4 HB4
    go_wp2_with fail
    exact bodyPost_ret (v := .tuple #[.agg #[.int .i64 (C : Int), .slice p5 n5 k5], .bool true]) (by simp [results, Try.results10, go_sem, HR.out.1, HR.out.2]) rfl ⟨_, by rw [HE.out.1], by rw [HE.out.2]; exact HOE.out.1, HOE.out.2⟩
end
end Go.Proofs.Ytpnapdhcdhcacaa
namespace Go.Proofs.Ytpnapdhcdhcacaa
theorem tot_leE : ∀ (l : List (List Int)) (m : Nat), (∀ r ∈ l, r.length ≤ m) → tot l ≤ l.length * m
  | [], _, _ => Nat.zero_le _
  | r :: l, m, h => by
    have h1 := tot_leE l m (fun x hx => h x (List.mem_cons_of_mem _ hx))
    have h2 := h r List.mem_cons_self
    have e : tot (r :: l) = r.length + tot l := by unfold tot; simp
    rw [e, List.length_cons, Nat.succ_mul]
    omega
theorem arm_bd (n : Int) (l : List (Int × Int)) : (armL n l).length ≤ 33 ∧ tot (armL n l) ≤ 165 := by
  unfold armL
  split
  · rename_i h
    obtain ⟨C, rfl, hC1, hC5, -, -⟩ := arD_n h
    have hc := cls_len (C : Int) l
    have h1 : (rowsA C (armP C (clsL (C : Int) l) (clsL (C : Int) l).length)).length ≤ 33 := by
      rw [rowsA_len]
      have := armP_len C (clsL (C : Int) l) (clsL (C : Int) l).length
      omega
    have h2 := tot_leE (rowsA C (armP C (clsL (C : Int) l) (clsL (C : Int) l).length)) 5 (fun r hr => by
      unfold rowsA at hr
      rw [List.mem_map] at hr
      obtain ⟨p, -, rfl⟩ := hr
      rw [rowA_len]
      exact hC5)
    show (rowsA C (armP C (clsL (C : Int) l) (clsL (C : Int) l).length)).length ≤ 33 ∧ tot (rowsA C (armP C (clsL (C : Int) l) (clsL (C : Int) l).length)) ≤ 165
    exact ⟨h1, by omega⟩
  · exact ⟨Nat.zero_le _, Nat.zero_le _⟩
theorem ctr_bd (n : Int) (l : List (Int × Int)) (d : Int × Int) : (ctrL n l d).length ≤ 2 ∧ tot (ctrL n l d) ≤ 10 := by
  unfold ctrL
  split
  · rename_i h
    obtain ⟨C, rfl, hC1, hC5, -, -⟩ := arD_n h.1
    have h2 := tot_leE [rowA (2 ^ C - 1) 0 C, rowA (clo l d.1.toNat) 1 C] 5 (fun r hr => by
      rcases List.mem_cons.1 hr with rfl | hr
      · rw [rowA_len]; exact hC5
      · rw [List.mem_singleton.1 hr, rowA_len]; exact hC5)
    exact ⟨Nat.le_refl _, h2⟩
  · exact ⟨Nat.zero_le _, Nat.zero_le _⟩
end Go.Proofs.Ytpnapdhcdhcacaa
namespace Go.Proofs.Ytpnapdhcdhcacaa
open Go.ChangeShapes Go.WideShapes Go.Joins Go.RowKit Go.Deep

theorem cellsDep : Try.prog.cellsOf 37 = 2 := by kernel_rfl
section
variable {H : Type} {enc : TypeId × Value → H} {w : World} {base : Nat} {held : Bool}
set_option maxRecDepth 20000 in
theorem open_dep {r : Reach} {b0 : Nat} {v : Value} {d : DataW H} {p : List MemPlace} (hv : Value.okWide Try.prog w r b0 37 v) (h : DataW.Trod enc Try.prog w base (fun _ => true) held 37 v d p) :
    ∃ x y : Int, v = .agg #[.int .i64 x, .int .i64 y] ∧ (Lit.int .i64 x).wf = true ∧ (Lit.int .i64 y).wf = true := by
  obtain ⟨c0, c1, y0, y1, m, rfl, -, -, hy0, hy1⟩ := open_agg2 Try.underlying37 (by kernel_rfl) cellsDep hv h
  obtain ⟨n, hn, -, hwf⟩ := DataW.trod_int Try.underlying3 hy0
  obtain ⟨n', hn', -, hwf'⟩ := DataW.trod_int Try.underlying3 hy1
  simp at hn hn'
  subst hn hn'
  exact ⟨n, n', rfl, hwf, hwf'⟩
set_option maxRecDepth 20000 in
theorem open_deps {fuel : Nat} {v : Value} {x : DataW H × List MemPlace} (h : DataW.trod enc Try.prog w base (fun _ => true) held fuel 22 [v] = some x) : ∃ ds, ReadD w v ds ∧ ds.length ≤ maxLen ∧ ∀ d ∈ ds, (Lit.int .i64 d.1).wf = true ∧ (Lit.int .i64 d.2).wf = true := by
  rcases open_slice_pairs Try.underlying22 Try.underlying37 cellsDep rfl rfl (by kernel_rfl) (by kernel_rfl) h with ⟨hcs, -⟩ | ⟨a, len, cap, m, n, V0, V1, D0, D1, P0, P1, hcs, -, hl, hm, hmm, -, hr⟩
  · simp at hcs
    subst hcs
    exact ⟨[], ⟨none, 0, rfl, fun i hi => absurd hi (Nat.not_lt_zero _)⟩, Nat.zero_le _, fun d hd => by cases hd⟩
  · simp at hcs
    subst hcs
    simp at hmm
    subst hmm
    have hx : ∀ i, i < m → ∃ p : Int × Int, V0 i = .int .i64 p.1 ∧ V1 i = .int .i64 p.2 ∧ (Lit.int .i64 p.1).wf = true ∧ (Lit.int .i64 p.2).wf = true := fun i hi => by
      obtain ⟨-, -, h0, h1⟩ := hr i hi
      obtain ⟨n0, e0, -, w0⟩ := DataW.trod_int Try.underlying3 h0
      obtain ⟨n1, e1, -, w1⟩ := DataW.trod_int Try.underlying3 h1
      simp at e0 e1
      exact ⟨(n0, n1), e0, e1, w0, w1⟩
    let f : Nat → Int × Int := fun i => if h : i < m then Classical.choose (hx i h) else (0, 0)
    have hf : ∀ i, i < m → V0 i = .int .i64 (f i).1 ∧ V1 i = .int .i64 (f i).2 ∧ (Lit.int .i64 (f i).1).wf = true ∧ (Lit.int .i64 (f i).2).wf = true := fun i hi => by
      have := Classical.choose_spec (hx i hi)
      simp only [f, dif_pos hi]
      exact this
    have hlen : ((List.range len).map f).length = len := by simp
    refine ⟨(List.range len).map f, ⟨some a, m, by rw [hlen], fun i hi => ?_⟩, by rw [hlen]; omega, fun d hd => ?_⟩
    · rw [hlen] at hi
      obtain ⟨c0, c1, -, -⟩ := hr i (by omega)
      obtain ⟨e0, e1, -, -⟩ := hf i (by omega)
      obtain ⟨b, o, s⟩ := a
      have hs : s = none := by
        obtain ⟨g0, -, -, -⟩ := hr 0 (by omega)
        rw [Nat.zero_mul, Addr.add_zero'] at g0
        unfold World.cell? at g0
        cases s with
        | none => rfl
        | some z =>
          simp only at g0
          split at g0 <;> simp at g0
      subst hs
      have hg : ((List.range len).map f).getD i (0, 0) = f i := by rw [List.getD_eq_getElem?_getD, List.getElem?_eq_getElem (by rw [hlen]; exact hi)]; simp
      rw [hg]
      refine ⟨b, o, rfl, ?_, ?_⟩
      · rw [← e0, ← c0]
        unfold Addr.add
        split
        · next h => rw [h, Nat.add_zero]
        · rfl
      · rw [← e1, ← c1]
        unfold Addr.add
        rw [if_neg (by omega)]
        rfl
    · obtain ⟨i, hi, rfl⟩ := List.mem_map.1 hd
      have := List.mem_range.1 hi
      exact (hf i (by omega)).2.2
end
end Go.Proofs.Ytpnapdhcdhcacaa
