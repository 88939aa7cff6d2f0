/- The program's GrowTransversals, by contract. Conditions: as stated. -/
import Derived.Test.YtnbjcelfdppkcaaGreatTc24
namespace Go.Proofs.YtnbjcelfdppkcaaGreat
open Go.RowKit

section
variable {P : Program} {a : Act} {w : World} {Q : Exit → Act → World → Prop}
theorem least_of {p : Nat → Prop} : ∀ n, p n → ∃ m, p m ∧ ∀ k, p k → m ≤ k := by
  intro n
  induction n using Nat.strongRecOn with
  | _ n ih =>
    intro h
    by_cases hx : ∃ k, k < n ∧ p k
    · obtain ⟨k, hk, hp⟩ := hx
      exact ih k hk hp
    · exact ⟨n, h, fun k hk => Nat.le_of_not_lt fun hlt => hx ⟨k, hlt, hk⟩⟩
/-- A scope in which the run jumps back to one label: what holds at every jump bears a number that every pass lowers. -/
theorem wp_scope_ghost {c rest : Code} (l : Nat) (J : Nat → Act → World → Prop) (hf : findLabel c l = some (Code.skip.seq rest))
    (pass : ∀ n a w, J n a w → rest.wp P (Exit.jump l (fun a' w' => ∃ m, m < n ∧ J m a' w') Q) a w)
    (first : (∀ n a w, J n a w → rest.wp P (Exit.jump l (fun a' w' => ∃ n, J n a' w') Q) a w) → c.wp P (Exit.jump l (fun a' w' => ∃ n, J n a' w') Q) a w) : (Code.scope c).wp P Q a w := by
  have hex : ∀ a w, (∃ n, J n a w) → ∃ m, J m a w ∧ ∀ k, J k a w → m ≤ k := fun a w ⟨n, h⟩ => least_of n h
  have hm : ∃ μ : Act → World → Nat, ∀ a w, (∃ n, J n a w) → J (μ a w) a w ∧ ∀ k, J k a w → μ a w ≤ k := by
    refine ⟨fun a w => Classical.epsilon fun m => J m a w ∧ ∀ k, J k a w → m ≤ k, fun a w h => ?_⟩
    exact Classical.epsilon_spec (hex a w h)
  obtain ⟨μ, hμ⟩ := hm
  refine wp_scope_jumps l (fun a' w' => ∃ n, J n a' w') μ hf (first fun n a w hJ => wp_mono (pass n a w hJ) ?_) fun a w hJ => wp_seq (wp_skip (wp_mono (pass _ a w (hμ a w hJ).1) ?_))
  · intro e a' w' h
    cases e with
    | goto l' => exact ⟨h.1, h.2.imp fun m hm => hm.2⟩
    | normal => exact h
    | exit id => exact h
    | ret => exact h
    | panic ch => exact h
    | outgrown => exact h
  · intro e a' w' h
    cases e with
    | goto l' =>
      obtain ⟨h1, m, hlt, hm⟩ := h
      exact ⟨h1, ⟨m, hm⟩, Nat.lt_of_le_of_lt ((hμ a' w' ⟨m, hm⟩).2 m hm) hlt⟩
    | normal => exact h
    | exit id => exact h
    | ret => exact h
    | panic ch => exact h
    | outgrown => exact h
end
set_option maxRecDepth 100000 in
set_option maxHeartbeats 6400000 in
theorem implGrow_any (v : Value) (l : List Int) (e : Int) (w : World) (hr : ReadI w v l) (hl : l.length ≤ 1048576) (hbd : I64s l) (h0 : -9223372036854775808 ≤ e) (h1 : e ≤ 9223372036854775807) :
    Calls Tryz.prog 52 #[v, .int .i64 e] w (RetI (grwL l e) w) := by
  obtain ⟨i0, hi, hz0, hz1, hz2⟩ := info_parts info3i
  have HI : Hid (_ ∧ _ ∧ _ ∧ _) := Lib.hid ⟨hi, hz0, hz1, hz2⟩
  clear hi hz0 hz1 hz2
  have HF := Lib.hid (famOf_any v l w hr hl hbd)
  have HV := Lib.hid (isValid_any e h0 h1)
  have HFO : Hid (famOf l = if setsOk l = true then memF l else noF) := Lib.hid rfl
  have nogo : (setsOk l && valB e) = false → Calls Tryz.prog 52 #[v, .int .i64 e] w (RetI (grwL l e) w) := fun hno => by
    have HE : Hid (grwL l e = []) := Lib.hid (by unfold grwL; rw [hno]; rfl)
    obtain ⟨f, hf⟩ : ∃ f, f = famOf l := ⟨_, rfl⟩
    rw [← hf] at HF
    clear hf HFO
    cases hok : setsOk l with
    | false =>
      rw [hok] at HF
      clear hno hok
      go_enter Tryz.func52, Tryz.ntmps52
      go_wp2_with fail
      go_step3
      go_wp2_with fail
      refine HF.out.mono ?_
      rintro e' w1 ⟨rfl, hb1⟩
      have HB := Lib.hid (below_setRow (hb1.alloc hb1.size (.cells (famC noF) 68)) hb1.size (famC f))
      clear hb1
      go_wp2_with (first | refine wpList_alloc_fam rfl rfl ?_ | refine wpList_store_fam rfl rfl rfl rfl (FamAt.new w1 noF) ?_)
      (try rw [Exit.noGoto_ret])
      go_ret
      exact ⟨_, rfl, by rw [HE.out]; exact World.ownsRow_nil _ _ _ _, HB.out⟩
    | true =>
      rw [hok, Bool.true_and] at hno
      rw [hok] at HF
      rw [hno] at HV
      clear hno hok
      go_enter Tryz.func52, Tryz.ntmps52
      go_wp2_with fail
      go_step3
      go_wp2_with fail
      refine HF.out.mono ?_
      rintro e' w1 ⟨rfl, hb1⟩
      have HB := Lib.hid (below_setRow (hb1.alloc hb1.size (.cells (famC noF) 68)) hb1.size (famC f))
      clear hb1
      go_wp2_with (first | refine wpList_alloc_fam rfl rfl ?_ | refine wpList_store_fam rfl rfl rfl rfl (FamAt.new w1 noF) ?_)
      refine (HV.out _).mono ?_
      rintro e' w2 ⟨rfl, rfl⟩
      go_wp2_with fail
      (try rw [Exit.noGoto_ret])
      go_ret
      exact ⟨_, rfl, by rw [HE.out]; exact World.ownsRow_nil _ _ _ _, HB.out⟩
  cases hok : setsOk l with
  | false => exact nogo (by rw [hok]; rfl)
  | true =>
    cases hv : valB e with
    | false => exact nogo (by rw [hv, Bool.and_false])
    | true =>
      clear nogo
      obtain ⟨E, rfl, hE⟩ := valN hv
      rw [hok, if_pos rfl] at HFO
      rw [hok, HFO.out] at HF
      rw [hv] at HV
      have HL := Lib.hid (famList_any (memF l))
      have HEQ := Lib.hid (grow_eq hE hok)
      have HST : Hid (∀ z ∈ lstF (memF l), valB z = true) := Lib.hid (lst_val l)
      have HLL : Hid ((lstF (memF l)).length ≤ 32) := Lib.hid (lstTo_len _ 32)
      clear hok hv HFO hr hbd
      go_enter Tryz.func52, Tryz.ntmps52
      go_wp2_with fail
      refine wp_scope_ghost 0 (fun (n : Nat) (a' : Act) (w' : World) => ∃ (q0 q1 q2 q3 q4 q5 q6 q9 q10 q11 q12 q13 q14 q15 q16 q17 q18 q19 q20 q21 q22 q23 q24 q25 q26 q27 q28 q29 q30 q31 q32 q33 q34 q35 q36 q37 q38 q39 q40 q41 q42 q43 q44 q45 q46 q47 q48 q49 q50 q51 q52 q53 : Value) (L : List Int) (va : Option Addr) (vc : Nat), a' = { tmps := #[q0, q1, q2, q3, q4, q5, q6, .int .i64 (E : Int), .slice va L.length vc, q9, q10, q11, q12, q13, q14, q15, q16, q17, q18, q19, q20, q21, q22, q23, q24, q25, q26, q27, q28, q29, q30, q31, q32, q33, q34, q35, q36, q37, q38, q39, q40, q41, q42, q43, q44, q45, q46, q47, q48, q49, q50, q51, q52, q53], defers := [] } ∧ Hid (n = non9 (E : Int) L ∧ (∀ z ∈ L, valB z = true) ∧ fin9 (E : Int) L = fin9 (E : Int) (lstF (memF l)) ∧ L.length + 4 * non9 (E : Int) L ≤ 160) ∧ Hid (L.length ≤ vc ∧ ∀ i (h : i < L.length), ∃ x, va = some x ∧ w'.cell? (x.add i) = some (.int .i64 L[i])) ∧ Hid (Below w.heap.size w w')) rfl ?_ ?_
      · rintro n a0 w3 ⟨q0, q1, q2, q3, q4, q5, q6, q9, q10, q11, q12, q13, q14, q15, q16, q17, q18, q19, q20, q21, q22, q23, q24, q25, q26, q27, q28, q29, q30, q31, q32, q33, q34, q35, q36, q37, q38, q39, q40, q41, q42, q43, q44, q45, q46, q47, q48, q49, q50, q51, q52, q53, L, va, vc, rfl, HN, HC, HB⟩
        have HLEN : Hid (L.length ≤ 160) := Lib.hid (by have := HN.out.2.2.2; omega)
        have hlen := HLEN.out
        go_wp2_with fail
        go_loopw [8, 29] (fun sv iv wr => ∃ k : Nat, k ≤ L.length ∧ sv = .slice va L.length vc ∧ iv = .int .i64 (k : Int) ∧ w3 = wr ∧ Hid (∀ z ∈ L.take k, hx9 (E : Int) z = true)) (fun _ iv _ => L.length - (intOf iv).toNat)
        case atStart => exact ⟨0, by omega, by first | rfl | trivial, by first | rfl | trivial, by first | rfl | trivial, Lib.hid (by simp)⟩
        case round =>
          obtain ⟨k, hk, rfl, rfl, rfl, HT⟩ := hrel
          have z0 : (0 : Int) ≤ (k : Int) := by omega
          by_cases hlt : k < L.length
          · obtain ⟨b, rfl, hb⟩ := HC.out.2 k hlt
            have z1 : (k : Int) < (L.length : Int) := by omega
            have hval := HN.out.2.1 _ (List.getElem_mem hlt)
            obtain ⟨X, hX, hX32⟩ := valN hval
            have hg : L.getD k 0 = (X : Int) := by rw [List.getD_eq_getElem?_getD, List.getElem?_eq_getElem hlt]; exact hX
            rw [hX] at hb
            have HP := Lib.hid (hitsP_any (X : Int) (E : Int) w3)
            have HTS : Hid (hx9 (E : Int) (X : Int) = true → ∀ z ∈ L.take (k + 1), hx9 (E : Int) z = true) := Lib.hid (fun h z hz => by
              rw [List.take_succ_eq_append_getElem hlt, List.mem_append] at hz
              rcases hz with hz | hz
              · exact HT.out z hz
              · rw [List.mem_singleton.1 hz, hX]; exact h)
            cases hx : hx9 (E : Int) (X : Int) with
            | true =>
              have HT2 := Lib.hid (HTS.out hx)
              rw [show (bits .and .i64 (X : Int) (E : Int) != 0) = true from hx] at HP
              clear hval hX hg hx HTS
              go_wp2_with fail
              refine HP.out.mono ?_
              rintro e' w4 ⟨rfl, rfl⟩
              go_wp2_with fail
              go_roundw
              case rel => exact ⟨k + 1, by omega, by first | rfl | trivial, by go_num, by first | rfl | trivial, HT2⟩
              case measure => simp [intOf]; omega
            | false =>
              rw [show (bits .and .i64 (X : Int) (E : Int) != 0) = false from hx] at HP
              have HG2 := Lib.hid (rep9_non hE HN.out.2.1 hlt (by rw [hg]; exact hx))
              have HG3 := Lib.hid (rep9_fin hE HN.out.2.1 hlt (by rw [hg]; exact hx))
              have HG4 := Lib.hid (rep9_val hE HN.out.2.1 hlt)
              have HR : Hid (rep9 (E : Int) L k = L.take k ++ grwOne (E : Int) (X : Int) 5 ++ L.drop (k + 1)) := Lib.hid (by unfold rep9; rw [hg])
              have HW := Lib.hid (withEach_any X E hX32 hE)
              have HGL := Lib.hid (grwOne_len5 (E : Int) (X : Int))
              have zc : (k : Int) ≤ (vc : Int) := by have := HC.out.1; omega
              have zc2 : k ≤ vc := by omega
              obtain ⟨G, hG⟩ : ∃ G, G = grwOne (E : Int) (X : Int) 5 := ⟨_, rfl⟩
              rw [← hG] at HR HW HGL
              clear hval hX hg hx HTS HT hG
              go_wp2_with fail
              refine HP.out.mono ?_
              rintro e' w4 ⟨rfl, rfl⟩
              go_wp2_with fail
              refine wp_region_noPanic ?_
              refine wp_region_held_drew (S := (fun w' => Below w3.heap.size w3 w')) (by kernel_rfl) ?_ (fun hHeld => ?_)
              · ((try dsimp only); exact (Below.refl _ _).drew)
              refine wpAnyH_take (i := 0) (v := ?_) rfl (by kernel_rfl) (by kernel_rfl) (by kernel_rfl) (fun _ _ _ h => h) (Or.inl ⟨by rfl, ?_⟩) (by assumption) ?_
              rotate_left
              · (intro w hSw; (try dsimp only at hSw); go_simp; (try with_reducible rfl))
              (try simp only [Act.put, List.getElem_toArray, List.getElem_cons_zero, List.setIfInBounds_toArray, List.set_cons_zero, List.set_cons_succ])
              refine wpAnyH_take (i := 1) (v := ?_) rfl (by kernel_rfl) (by kernel_rfl) (by kernel_rfl) (fun _ _ _ h => h) (Or.inl ⟨by rfl, ?_⟩) (by assumption) ?_
              rotate_left
              · (intro w hSw; (try dsimp only at hSw); go_simp; (try with_reducible rfl))
              (try simp only [Act.put, List.getElem_toArray, List.getElem_cons_succ, List.getElem_cons_zero, List.setIfInBounds_toArray, List.set_cons_zero, List.set_cons_succ])
              refine wpAnyH_take (i := 2) (v := ?_) rfl (by kernel_rfl) (by kernel_rfl) (by kernel_rfl) (fun _ _ _ h => h) (Or.inl ⟨by rfl, ?_⟩) (by assumption) ?_
              rotate_left
              · (intro w hSw; (try dsimp only at hSw); go_simp; (try with_reducible rfl))
              (try simp only [Act.put, List.getElem_toArray, List.getElem_cons_succ, List.getElem_cons_zero, List.setIfInBounds_toArray, List.set_cons_zero, List.set_cons_succ])
              refine wpAnyH_take (i := 3) (v := ?_) rfl (by kernel_rfl) (by kernel_rfl) (by kernel_rfl) (fun _ _ _ h => h) (Or.inl ⟨by rfl, ?_⟩) (by assumption) ?_
              rotate_left
              · (intro w hSw; (try dsimp only at hSw); go_simp; (try with_reducible rfl))
              (try simp only [Act.put, List.getElem_toArray, List.getElem_cons_succ, List.getElem_cons_zero, List.setIfInBounds_toArray, List.set_cons_zero, List.set_cons_succ])
              refine wpAnyH_take (i := 4) (v := ?_) rfl (by kernel_rfl) (by kernel_rfl) (by kernel_rfl) (fun _ _ _ h => h) (Or.inl ⟨by rfl, ?_⟩) (by assumption) ?_
              rotate_left
              · (intro w hSw; (try dsimp only at hSw); go_simp; (try with_reducible rfl))
              (try simp only [Act.put, List.getElem_toArray, List.getElem_cons_succ, List.getElem_cons_zero, List.setIfInBounds_toArray, List.set_cons_zero, List.set_cons_succ])
              refine wpAnyH_take (i := 5) (v := ?_) rfl (by kernel_rfl) (by kernel_rfl) (by kernel_rfl) (fun _ _ _ h => h) (Or.inl ⟨by rfl, ?_⟩) (by assumption) ?_
              rotate_left
              · (intro w hSw; (try dsimp only at hSw); go_simp; (try with_reducible rfl))
              (try simp only [Act.put, List.getElem_toArray, List.getElem_cons_succ, List.getElem_cons_zero, List.setIfInBounds_toArray, List.set_cons_zero, List.set_cons_succ])
              refine wpAnyH_ready (rs := [6]) (by kernel_rfl) (by simp) (AllReadyH.cons rfl (fun K hK => ?_) AllReadyH.nil)
              (first | (go_at_call 72; refine (HW.out _).mono ?_; rintro e91 w91 ⟨v91, rfl, ho91, b91⟩) | (go_simp; go_at_call 72; refine (HW.out _).mono ?_; rintro e91 w91 ⟨v91, rfl, ho91, b91⟩))
              (try (go_wp2_with fail))
              refine hK.out _ _ ?_ (fun hHeld => ?_)
              · ((try dsimp only); exact hHeld.trans (b91.mono hHeld.size))
              clear hK K
              (try simp only [Act.put, List.getElem_toArray, List.getElem_cons_succ, List.getElem_cons_zero, List.setIfInBounds_toArray, List.set_cons_zero, List.set_cons_succ])
              obtain ⟨va91, vc91, hv91, hc91⟩ := ho91.read
              subst hv91
              have HR91 : Hid (ReadI w91 (.slice va91 G.length vc91) G) := Lib.hid ⟨va91, vc91, rfl, hc91⟩
              have HB91 := Lib.hid hHeld
              have HF91 : Hid (ForO w91 w91.heap.size (.slice (some b) k k) (L.take k)) := Lib.hid (.inr ⟨some b, by rw [List.length_take, Nat.min_eq_left hk], (fun h => by cases h), fun i hi => by
                have hi' : i < k := by rw [List.length_take] at hi; omega
                obtain ⟨y, e, hy⟩ := HC.out.2 i (by omega)
                cases e
                refine ⟨b, rfl, ?_⟩
                rw [List.getElem_take]
                exact cell_inB hy HB91.out⟩)
              clear ho91 hc91 b91
              refine wpAnyH_ready (rs := [7]) (by kernel_rfl) (by simp) (AllReadyH.cons rfl (fun K hK => ?_) AllReadyH.nil)
              (refine step_append_for (by rfl) _ _ _ (by rfl) w91.heap.size i0 Tryz.underlying29 HI.out.1 HI.out.2.1 HI.out.2.2.1 HI.out.2.2.2 (.slice (some b) k k) (L.take k) rfl HF91.out (.slice va91 G.length vc91) G rfl HR91.out (by have := HGL.out; rw [List.length_take]; omega) (Nat.le_refl _) ?_; intro v92 w92 hf92 b92)
              (try (go_wp2_with fail))
              refine hK.out _ _ ?_ (fun hHeld => ?_)
              · ((try dsimp only); exact HB91.out.trans (b92.mono HB91.out.size))
              clear hK K
              (try simp only [Act.put, List.getElem_toArray, List.getElem_cons_succ, List.getElem_cons_zero, List.setIfInBounds_toArray, List.set_cons_zero, List.set_cons_succ])
              refine wpAnyH_take (i := 8) (v := ?_) rfl (by kernel_rfl) (by kernel_rfl) (by kernel_rfl) (fun _ _ _ h => h) (Or.inl ⟨by rfl, ?_⟩) (by assumption) ?_
              rotate_left
              · (intro w hSw; (try dsimp only at hSw); go_simp; (try with_reducible rfl))
              (try simp only [Act.put, List.getElem_toArray, List.getElem_cons_succ, List.getElem_cons_zero, List.setIfInBounds_toArray, List.set_cons_zero, List.set_cons_succ])
              refine wpAnyH_done (by kernel_rfl) ?_ _
              refine NoPanic.normal ?_
              have HF92 := Lib.hid hf92
              have HB92 := Lib.hid hHeld
              have hs92 := b92.size
              clear hf92 b92 hHeld
              have HRD : Hid (∀ ao c', (¬ vc = k + 1 → ao = some (b.add (k + 1))) → ReadI w92 (.slice ao (L.length - (k + 1)) c') (L.drop (k + 1))) := Lib.hid (fun ao c' hao => by
                refine ⟨ao, c', by rw [List.length_drop], fun i hi => ?_⟩
                rw [List.length_drop] at hi
                obtain ⟨y, e, hy⟩ := HC.out.2 (k + 1 + i) (by omega)
                cases e
                have hvc := HC.out.1
                refine ⟨b.add (k + 1), hao (by omega), ?_⟩
                rw [Addr.add_add, List.getElem_drop]
                exact cell_inB hy HB92.out)
              have HLD : Hid ((L.take k ++ G).length + (L.drop (k + 1)).length ≤ 1048576) := Lib.hid (by have := HGL.out; rw [List.length_append, List.length_take, List.length_drop]; omega)
              have HS91 : Hid (w91.heap.size ≤ w92.heap.size) := Lib.hid (by have := hs92; omega)
              clear hs92
              go_wp2_with (at_builtin; refine wpList_append_for (by rfl) _ _ _ (by rfl) w91.heap.size i0 Tryz.underlying29 HI.out.1 HI.out.2.1 HI.out.2.2.1 HI.out.2.2.2 v92 (L.take k ++ G) (by rfl) HF92.out _ (L.drop (k + 1)) (by rfl) (HRD.out _ _ (by intro h; first | rfl | simp [h, Addr.add])) HLD.out HS91.out ?_; intro v93 w93 hf93 b93)
              all_goals
                have HB93 := Lib.hid (HB.out.trans ((HB92.out.trans (b93.mono HB91.out.size)).mono HB.out.size))
                rw [← HR.out] at hf93
                obtain ⟨a93, c93, hv93, hle93, hc93⟩ := hf93.read
                subst hv93
                go_step3
                refine ⟨rfl, non9 (E : Int) (rep9 (E : Int) L k), ?_, _, _, _, _, _, _, _, _, _, _, _, _, _, _, _, _, _, _, _, _, _, _, _, _, _, _, _, _, _, _, _, _, _, _, _, _, _, _, _, _, _, _, _, _, _, _, _, _, _, _, _, _, rep9 (E : Int) L k, a93, c93, rfl, Lib.hid ⟨rfl, HG4.out, HG3.out.trans HN.out.2.2.1, ?_⟩, Lib.hid ⟨hle93, hc93⟩, HB93⟩
                · have h1 := HG2.out.1
                  have h2 := HN.out.1
                  omega
                · have h1 := HG2.out
                  have h2 := HN.out.2.2.2
                  omega
          · obtain rfl : k = L.length := by omega
            have hall : ∀ z ∈ L, hx9 (E : Int) z = true := fun z hz => HT.out z (by rw [List.take_length]; exact hz)
            have hLf : L = fin9 (E : Int) (lstF (memF l)) := (fin9_all hall).symm.trans HN.out.2.2.1
            have HM := Lib.hid (implMinimalM_any (.slice va L.length vc) L w3 ⟨va, vc, rfl, HC.out.2⟩ (by omega) (setsOk_i64 HN.out.2.1))
            have HME : Hid (minS L = grwL l (E : Int)) := Lib.hid (by rw [hLf]; exact HEQ.out.2)
            rw [HME.out] at HM
            clear hall hLf HME HT
            go_wp2_with fail
            refine HM.out.mono ?_
            rintro e' w4 ⟨u, rfl, ho4, hb4⟩
            have HB4 := Lib.hid (HB.out.trans (hb4.mono HB.out.size))
            have HO4 := Lib.hid (OwnI.base ho4 HB.out.size)
            clear ho4 hb4
            go_wp2_with fail
            simp only [Exit.jump]
            go_ret
            exact ⟨_, rfl, HO4.out, HB4.out⟩
      · intro hrest
        go_wp2_with fail
        refine HF.out.mono ?_
        rintro e' w1 ⟨rfl, hb1⟩
        have HB := Lib.hid (below_setRow (hb1.alloc hb1.size (.cells (famC noF) 68)) hb1.size (famC (memF l)))
        have HF0 := Lib.hid ((FamAt.new w1 noF).row (memF l))
        have HG := Lib.hid hb1.size
        clear hb1
        go_wp2_with (first | refine wpList_alloc_fam rfl rfl ?_ | refine wpList_store_fam rfl rfl rfl rfl (FamAt.new w1 noF) ?_)
        refine (HV.out _).mono ?_
        rintro e' w2 ⟨rfl, rfl⟩
        go_wp2_with (refine wpList_load_fam rfl rfl rfl HF0.out ?_)
        refine (HL.out _).mono ?_
        rintro e' w3 ⟨v3, rfl, ho3, hb3⟩
        obtain ⟨a3, c3, hv3, hle3, hc3⟩ := (show ForO w3 _ v3 (lstF (memF l)) from .inl ho3).read
        subst hv3
        have HB3 := Lib.hid (HB.out.trans (hb3.mono HB.out.size))
        have HC3 := Lib.hid (And.intro hle3 hc3)
        clear ho3 hb3 hle3 hc3
        go_wp2_with fail
        go_step3
        rename_i hK
        refine hK _ _ (hrest (non9 (E : Int) (lstF (memF l))) _ _ ⟨_, _, _, _, _, _, _, _, _, _, _, _, _, _, _, _, _, _, _, _, _, _, _, _, _, _, _, _, _, _, _, _, _, _, _, _, _, _, _, _, _, _, _, _, _, _, _, _, _, _, _, _, lstF (memF l), a3, c3, rfl, Lib.hid ⟨rfl, HST.out, rfl, ?_⟩, HC3, HB3⟩)
        have h1 := non9_le (E : Int) (lstF (memF l))
        have h2 := HLL.out
        omega
end Go.Proofs.YtnbjcelfdppkcaaGreat
