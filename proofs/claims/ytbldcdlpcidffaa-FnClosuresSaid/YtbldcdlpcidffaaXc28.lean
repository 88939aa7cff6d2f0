/- Texts of this claim, merged: PcD. Conditions: as stated. -/
import Derived.Test.YtbldcdlpcidffaaPcCm
import Derived.Test.YtbldcdlpcidffaaClEm
namespace Go.Proofs.Ytbldcdlpcidffaa
open Go.RowKit

section
set_option maxRecDepth 20000
set_option maxHeartbeats 6400000
theorem implDeriveDep_any (v : Value) (n x y : Int) (l : List (Int × Int)) (_w0 : (Lit.int .i64 n).wf = true) (bd : ∀ d ∈ l, (Lit.int .i64 d.1).wf = true ∧ (Lit.int .i64 d.2).wf = true) (_wx : (Lit.int .i64 x).wf = true) (_wy : (Lit.int .i64 y).wf = true) (w : World) (hr : ReadD w v l) (hl : l.length ≤ 1048576) :
    Calls Try.prog 7 #[.int .i64 n, v, .agg #[.int .i64 x, .int .i64 y]] w (RetDer (derL n l (x, y)) (impB n l (x, y)) w) := by
  obtain ⟨i0, hi, hz0, hz1, hz2⟩ := info_parts infoT3
  have HI : Hid (_ ∧ _ ∧ _ ∧ _) := Lib.hid ⟨hi, hz0, hz1, hz2⟩
  clear hi hz0 hz1 hz2
  have HR := Lib.hid (fun w' (hb : Below w.heap.size w w') => hr.kept hb)
  have hb1 := (Below.refl w.heap.size w).alloc (Nat.le_refl _) (.cells #[.int .i64 x, .int .i64 y] 26)
  have HIM := Lib.hid (implImpliesDep_any v n x y l _w0 bd _wx _wy _ (hr.kept hb1) hl)
  have HB1 := Lib.hid hb1
  obtain ⟨c0, c1⟩ := zero2 w 26 (.int .i64 x) (.int .i64 y)
  have HS0 : Hid (w.heap.size + 1 ≤ (w.alloc (.cells #[.int .i64 x, .int .i64 y] 26)).heap.size) := Lib.hid (by simp)
  have hr0 := hr
  obtain ⟨a, cap, rfl, -⟩ := hr
  clear hb1 bd
  cases him : impB n l (x, y) with
  | false =>
    rw [him] at HIM
    have HE : Hid (derL n l (x, y) = []) := Lib.hid (by unfold derL; rw [him]; rfl)
    clear him hr0
    go_enter Try.func7, Try.ntmps7
    go_wp2_with fail
    refine HIM.out.mono ?_
    rintro e w3 ⟨rfl, b3⟩
    have HB3 := Lib.hid (HB1.out.trans (b3.mono HB1.out.size))
    clear b3
    go_wp2_with fail
    exact bodyPost_ret (v := .tuple #[.slice .none 0 0, .bool false]) (by simp [results, Try.results7, go_sem]) rfl ⟨_, rfl, by rw [HE.out]; exact OwnT3.nil _ _, HB3.out⟩
  | true =>
    rw [him] at HIM
    have him2 := him
    unfold impB at him2
    rw [Bool.and_eq_true, Bool.and_eq_true] at him2
    obtain ⟨ha, hdp, hbR⟩ := him2
    obtain ⟨C, rfl, hC1, hC5, -, hd⟩ := arD_n ha
    obtain ⟨-, k1, k2, k3⟩ := depB_iff.1 hdp
    simp only at k1 k2 k3
    obtain ⟨L, rfl, hL, -⟩ := isA_lt hC5 k1
    obtain ⟨R, rfl⟩ : ∃ R : Nat, y = (R : Int) := ⟨y.toNat, by omega⟩
    have hR5 : R < 5 := by omega
    have hbR' : bitB (clo l L) R = true := hbR
    have HE : Hid (derL (C : Int) l ((L : Int), (R : Int)) = drv l R 6 L) := Lib.hid (by unfold derL; rw [him]; rfl)
    have HST := Lib.hid (fun (k X : Nat) h1 h2 h3 h4 h5 => drv_step (k := k) hC5 hd hL hR5 (x := X) h1 h2 h3 hbR' h4 h5)
    have HD := Lib.hid hd
    have h32 := two5 hC5
    have HLC := Lib.hid (clo_spec hC5 hd hL).2.1
    have HHS := Lib.hid (fun X w' => has_any X R (by omega) w')
    have HFE := Lib.hid (fun X hX w' (hb : Below w.heap.size w w') => firstEnl_any C hC5 _ l hd X hX w' (hr0.kept hb) hl)
    clear him hdp hbR hbR' k1 k3 ha hd hr0
    go_enter Try.func7, Try.ntmps7
    go_wp2_with fail
    refine HIM.out.mono ?_
    rintro e w3 ⟨rfl, b3⟩
    have HB3 := Lib.hid (And.intro (HB1.out.trans (b3.mono HB1.out.size)) (Nat.le_trans HS0.out b3.size))
    have HBX := Lib.hid (And.intro (keep_in c0 b3) (keep_in c1 b3))
    obtain ⟨d0, d1⟩ := HBX.out
    clear b3 c0 c1 HB1 HS0
    go_wp2_with fail
    go_loopw [8, 9] (fun ov xv wr => ∃ (X : Nat) (q : List (Int × Int × Int)) (k : Nat), xv = .int .i64 (X : Int) ∧ Hid (X < 32 ∧ subN L X = true ∧ subN X (clo l L) = true ∧ 6 ≤ popN X + k ∧ q ++ drv l R k X = drv l R 6 L) ∧ Hid (OwnT3 wr (w.heap.size + 1) ov q) ∧ Hid (wr.cell? ⟨w.heap.size, 0, none⟩ = some (.int .i64 (L : Int)) ∧ wr.cell? ⟨w.heap.size, 1, none⟩ = some (.int .i64 (R : Int))) ∧ Hid (Below w.heap.size w wr ∧ w.heap.size + 1 ≤ wr.heap.size)) (fun _ xv _ => 6 - popN (intOf xv).toNat)
    case atStart => exact ⟨L, [], 6, rfl, Lib.hid ⟨hL, subN_refl _, HLC.out, by omega, rfl⟩, Lib.hid (OwnT3.nil _ _), HBX, HB3⟩
    case round =>
      clear d0 d1 HBX HB3
      obtain ⟨X, q, k, rfl, HX, HO, HBX, HBB⟩ := hrel
      obtain ⟨w4, hw⟩ : ∃ w', w' = wr := ⟨_, rfl⟩
      rw [← hw] at HO HBX HBB ⊢
      clear hw
      obtain ⟨d0, d1⟩ := HBX.out
      have HH := Lib.hid (HHS.out X w4)
      cases hb : bitB X R with
      | true =>
        rw [hb] at HH
        have HDE : Hid (q = derL (C : Int) l ((L : Int), (R : Int))) := Lib.hid (by
          have h := HX.out.2.2.2.2
          rw [drv_end hb, List.append_nil] at h
          rw [HE.out]; exact h)
        have HOQ := Lib.hid (HO.out.base (B' := w.heap.size) (by omega))
        have HBQ := Lib.hid HBB.out.1
        clear hb
        go_wp2_with fail
        refine HH.out.mono ?_
        rintro e w5 ⟨rfl, rfl⟩
        go_wp2_with fail
        exact bodyPost_ret (v := .tuple #[_, .bool true]) (by simp [results, Try.results7, go_sem]; rfl) rfl ⟨_, rfl, by rw [← HDE.out]; exact HOQ.out, HBQ.out⟩
      | false =>
        rw [hb] at HH
        obtain ⟨k', y', rfl, hf, hy', hdv, hk', hy32, hLy, hyc⟩ := HST.out k X HX.out.1 HX.out.2.1 HX.out.2.2.1 hb HX.out.2.2.2.1
        have HQ : Hid ((q ++ [((frst l X : Int), (X : Int), (y' : Int))]) ++ drv l R k' y' = drv l R 6 L) := Lib.hid (by rw [← HX.out.2.2.2.2, hdv, List.append_assoc]; rfl)
        have hql : q.length ≤ 6 := by
          have h := congrArg List.length HX.out.2.2.2.2
          rw [List.length_append] at h
          have := drv_len l R 6 L
          omega
        have HF := Lib.hid (HFE.out X HX.out.1 w4 HBB.out.1)
        have hix : ixZ (fun d : Int × Int => subN d.1.toNat X && !bitB X d.2.toNat) l = ((frst l X : Nat) : Int) := by
          show (if frst l X < l.length then ((frst l X : Nat) : Int) else -1) = _
          rw [if_pos hf]
        rw [hix] at HF
        obtain ⟨Ld, Rd, e, hLd, hRd⟩ := HD.out _ (memD hf)
        have hRd5 : Rd < 5 := by omega
        have HPX : Hid (popN X + 1 ≤ popN y') := Lib.hid (by
          have ha := frst_app hf
          unfold appN at ha
          rw [Bool.and_eq_true, Bool.not_eq_true'] at ha
          rw [hy', e]
          rw [e] at ha
          exact orN_not ⟨X, HX.out.1⟩ ⟨Rd, hRd5⟩ ha.2)
        have HAD := Lib.hid (fun w' => added10_any X Rd (Ld : Int) HX.out.1 hRd5 w')
        have hyR : orN X Rd = y' := by rw [hy', e]; rfl
        rw [hyR] at HAD
        have HYF := Lib.hid (And.intro hy32 (And.intro hLy (And.intro hyc hk')))
        obtain ⟨F, hF⟩ : ∃ F, F = frst l X := ⟨_, rfl⟩
        rw [← hF] at HQ HF hf e
        have HGD := Lib.hid e
        clear hb hy' hdv hk' hy32 hLy hyc hix hyR hF e hRd hLd
        go_wp2_with fail
        refine HH.out.mono ?_
        rintro e5 w5 ⟨rfl, rfl⟩
        go_wp2_with fail
        refine HF.out.mono ?_
        rintro e5 w5 ⟨rfl, b5⟩
        have HO5 := Lib.hid (HO.out.grown b5)
        have HB5 := Lib.hid (HBB.out.1.trans (b5.mono HBB.out.1.size))
        have HX5 := Lib.hid (And.intro (keep_in d0 b5) (keep_in d1 b5))
        have HS5 := Lib.hid (Nat.le_trans HBB.out.2 b5.size)
        obtain ⟨b, o, hab, h0, h1⟩ := readD_cells (HR.out w5 HB5.out) hf
        rw [HGD.out] at h0 h1
        simp only at h0 h1
        subst hab
        have z0 : (0 : Int) ≤ (F : Int) := by omega
        have z1 : (F : Int) < (l.length : Int) := by omega
        clear b5 d0 d1 HO HBX HBB
        go_wp2_with fail
        refine (HAD.out _).mono ?_
        rintro e6 w6 ⟨rfl, b6⟩
        have HO6 := Lib.hid (HO5.out.grown b6)
        have HBB6 := Lib.hid (And.intro (HB5.out.trans (b6.mono HB5.out.size)) (Nat.le_trans HS5.out b6.size))
        have HX6 := Lib.hid (And.intro (keep_in HX5.out.1 b6) (keep_in HX5.out.2 b6))
        have ho6 := HO6.out
        clear b6 h0 h1
        go_wp2_with (at_builtin; refine wpList_append_own _ rfl _ _ 30 rfl (w.heap.size + 1) 60 i0 (.agg #[.int .i64 0, .int .i64 0, .int .i64 0]) 3 24 Try.underlying30 HI.out.1 HI.out.2.1 HI.out.2.2.1 HI.out.2.2.2 rfl (by decide) _ _ _ rfl (World.ownsRow.alloc ho6 _) ⟨w6.heap.size, 0, none⟩ 1 1 [.int .i64 (F : Int), .int .i64 (X : Int), .int .i64 (y' : Int)] rfl rfl (cell_three_new _ _ _ _ _) (three_i64 _ _ _) (by unfold maxLen; omega) (by omega) (by have := HBB6.out.2; rw [World.size_alloc]; omega) ?_; intro v7 w7 hown7 hgrow7 _)
        have ho7 := Lib.hid (OwnT3.snoc hown7)
        have ha6 := (Below.refl w6.heap.size w6).alloc (Nat.le_refl _) (.cells #[.int .i64 (F : Int), .int .i64 (X : Int), .int .i64 (y' : Int)] 60)
        have hb7 := Lib.hid (And.intro ((HBB6.out.1.alloc HBB6.out.1.size (.cells #[.int .i64 (F : Int), .int .i64 (X : Int), .int .i64 (y' : Int)] 60)).grown hgrow7 (by rw [World.size_alloc]; have := HBB6.out.1.size; omega) (fun k hk => by have := (HO6.out.lt k hk).1; omega)) (show w.heap.size + 1 ≤ w7.heap.size by have := hgrow7.size; rw [World.size_alloc] at this; have := HBB6.out.2; omega))
        have hc7 := Lib.hid (And.intro ((kept_cell hgrow7 (fun g hg => (HO6.out.lt g hg).1) (World.block_lt_of_cell? _ _ (keep_in HX6.out.1 ha6)) (Nat.le_refl _)).trans (keep_in HX6.out.1 ha6)) ((kept_cell hgrow7 (fun g hg => (HO6.out.lt g hg).1) (World.block_lt_of_cell? _ _ (keep_in HX6.out.2 ha6)) (Nat.le_refl _)).trans (keep_in HX6.out.2 ha6)))
        clear hown7 hgrow7 ha6 ho6
        go_wp2_with fail
        go_roundw
        case rel => exact ⟨y', _, k', rfl, Lib.hid ⟨HYF.out.1, HYF.out.2.1, HYF.out.2.2.1, HYF.out.2.2.2, HQ.out⟩, ho7, hc7, hb7⟩
        case measure => have h1 := HPX.out; have h2 := popN_le y'; simp [intOf]; omega
end
end Go.Proofs.Ytbldcdlpcidffaa
