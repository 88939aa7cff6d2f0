/- The model's order of rows and merge of two lists in order, by contract. Conditions: as stated. -/
import Derived.Test.YtnelddlbpdpndaaSpecT2
import Derived.Test.YtnelddlbpdpndaaRowOrd
namespace Go.Proofs.Ytnelddlbpdpndaa
open Go.RowKit

theorem lessR_drop {a b : List Int} {k : Nat} (h1 : k < a.length) (h2 : k < b.length) : lessR (a.drop k) (b.drop k) = if a[k] = b[k] then lessR (a.drop (k + 1)) (b.drop (k + 1)) else decide (a[k] < b[k]) := by
  rw [List.drop_eq_getElem_cons h1, List.drop_eq_getElem_cons h2]; rfl
theorem lessR_end {a b : List Int} {k : Nat} (hk : k ≤ a.length) (hk2 : k ≤ b.length) (h : ¬ (k < a.length ∧ k < b.length)) : lessR (a.drop k) (b.drop k) = decide (a.length < b.length) := by
  by_cases h1 : k < a.length
  · have h2 : k = b.length := by omega
    rw [show b.drop k = [] from List.drop_eq_nil_of_le (by omega), List.drop_eq_getElem_cons h1, decide_eq_false (by omega)]
    rfl
  · have h1' : k = a.length := by omega
    rw [h1', List.drop_length]
    by_cases h2 : a.length < b.length
    · rw [List.drop_eq_getElem_cons h2, decide_eq_true h2]; rfl
    · rw [List.drop_eq_nil_of_le (by omega), decide_eq_false h2]; rfl
theorem quiet_on {P : Program} {f : FuncId} {args : Array Value} {w : World} {a n : Nat} {v : Value} (h : ∀ k, Calls P f args (w.drewN k) fun e w' => e = .returned v ∧ ∃ m, w' = (w.drewN k).drewN m) :
    Calls P f args (w.drewN (a + n)) fun e w' => e = .returned v ∧ ∃ m, w' = w.drewN (a + m) :=
  (h (a + n)).mono fun e w' hh => by
    obtain ⟨m, hm⟩ := hh.2
    exact ⟨hh.1, n + m, by rw [hm, World.drewN_drewN, ← Nat.add_assoc]⟩
theorem drew3 (w : World) (n a b : Nat) : ∃ k, ((w.drewN n).drewN a).drewN b = w.drewN k := ⟨_, by rw [World.drewN_drewN, World.drewN_drewN]⟩
set_option maxHeartbeats 1600000 in
theorem l3Less_any (v v' : Value) (l l' : List Int) (w : World) (hr : ReadI w v l) (hr' : ReadI w v' l') (hl : l.length ≤ 1000000000) (hl' : l'.length ≤ 1000000000) :
    Calls Try.prog 55 #[v, v'] w fun e w' => e = .returned (.bool (lessR l l')) ∧ ∃ m, w' = w.drewN m := by
  obtain ⟨a, cap, rfl, ha⟩ := hr
  obtain ⟨a', cap', rfl, ha'⟩ := hr'
  have HA := Lib.hid ha
  have HA' := Lib.hid ha'
  clear ha ha'
  go_enter Try.func55, Try.ntmps55
  go_wp2_with fail
  go_loopw [5] (fun iv wr => ∃ (k n : Nat), k ≤ l.length ∧ k ≤ l'.length ∧ iv = .int .i64 (k : Int) ∧ Hid (lessR l l' = lessR (l.drop k) (l'.drop k)) ∧ wr = w.drewN n) (fun iv _ => l.length - (intOf iv).toNat)
  case atStart => exact ⟨0, 0, by omega, by omega, rfl, Lib.hid rfl, rfl⟩
  case round =>
    obtain ⟨k, n, hk, hk', rfl, hsame, rfl⟩ := hrel
    by_cases hlt : k < l.length ∧ k < l'.length
    · obtain ⟨hlt1, hlt2⟩ := hlt
      obtain ⟨x, rfl, hx⟩ := HA.out k hlt1
      obtain ⟨x', rfl, hx'⟩ := HA'.out k hlt2
      have z0 : (0 : Int) ≤ (k : Int) := by omega
      have z1 : (k : Int) < (l.length : Int) := by omega
      have z2 : (k : Int) < (l'.length : Int) := by omega
      have HS := Lib.hid (lessR_drop hlt1 hlt2)
      by_cases he : l[k] = l'[k]
      · have hb : (l[k] != l'[k]) = false := by simp [he]
        have HE := Lib.hid he
        clear he
        go_wp2_with fail
        go_quiet (fail)
        go_wp2_with fail
        go_roundw
        case rel => exact ⟨k + 1, _, by omega, by omega, by go_num, Lib.hid (by rw [hsame.out, HS.out, if_pos HE.out]), rfl⟩
        case measure => simp [intOf]; omega
      · have hb : (l[k] != l'[k]) = true := by simpa using he
        have HE := Lib.hid he
        clear he
        go_wp2_with fail
        go_quiet (fail)
        go_wp2_with fail
        go_quiet (fail)
        go_wp2_with fail
        go_ret
        exact ⟨ret_b (by rw [hsame.out, HS.out, if_neg HE.out]), drew3 _ _ _ _⟩
    · have HS := Lib.hid (lessR_end hk hk' hlt)
      have hlt2 : ¬ k < l.length ∨ ¬ k < l'.length := by omega
      by_cases h1 : k < l.length
      · have h2 : ¬ k < l'.length := by omega
        clear hlt hlt2
        go_wp2_with fail
        go_ret
        exact ⟨ret_b (by rw [hsame.out, HS.out]), _, rfl⟩
      · clear hlt hlt2
        go_wp2_with fail
        go_ret
        exact ⟨ret_b (by rw [hsame.out, HS.out]), _, rfl⟩

/-! ### Rows beside their values -/
/-- The slice value v holds these values, and each can be read as its row. -/
def RowsP (w : World) (v : Value) (P : List (Value × List Int)) : Prop :=
  ∃ a cap, v = .slice a P.length cap ∧ ∀ i (h : i < P.length), ∃ x, a = some x ∧ w.cell? (x.add i) = some P[i].1 ∧ ReadI w P[i].1 P[i].2
theorem RowsP.kept {w w' : World} {v : Value} {P : List (Value × List Int)} (h : RowsP w v P) (hb : Below w.heap.size w w') : RowsP w' v P := by
  obtain ⟨a, cap, hv, hc⟩ := h
  refine ⟨a, cap, hv, fun i hi => ?_⟩
  obtain ⟨x, hx, hcell, hr⟩ := hc i hi
  exact ⟨x, hx, (hb.cell (World.block_lt_of_cell? w _ hcell)).trans hcell, hr.kept hb⟩
/-- The merge of two lists in order: a new outer row of the given values. -/
def RetM (M : List (Value × List Int)) (w : World) (e : Ending) (w' : World) : Prop := ∃ v, e = .returned v ∧ w'.ownsRow w.heap.size 31 1 v M.length (M.map (·.1)) ∧ Below w.heap.size w w'
theorem merge_left {PA : List (Value × List Int)} {i : Nat} (h : i < PA.length) : mergeP (PA.drop i) [] = PA[i] :: mergeP (PA.drop (i + 1)) [] := by
  rw [mergeP_nil_right, mergeP_nil_right, List.drop_eq_getElem_cons h]
theorem merge_right {PB : List (Value × List Int)} {k : Nat} (h : k < PB.length) : mergeP [] (PB.drop k) = PB[k] :: mergeP [] (PB.drop (k + 1)) := by
  rw [mergeP_nil_left, mergeP_nil_left, List.drop_eq_getElem_cons h]
theorem merge_two {PA PB : List (Value × List Int)} {i k : Nat} (hi : i < PA.length) (hk : k < PB.length) : mergeP (PA.drop i) (PB.drop k) =
    if lessR PA[i].2 PB[k].2 = true then PA[i] :: mergeP (PA.drop (i + 1)) (PB.drop k) else if lessR PB[k].2 PA[i].2 = true then PB[k] :: mergeP (PA.drop i) (PB.drop (k + 1)) else mergeP (PA.drop i) (PB.drop (k + 1)) := by
  rw [List.drop_eq_getElem_cons hi, List.drop_eq_getElem_cons hk, mergeP_cons]
theorem own_snoc {w : World} {B : Nat} {v u : Value} {O : List (Value × List Int)} {p : Value × List Int} (h : w.ownsRow B 31 1 v (O.length + 1) (O.map (·.1) ++ [u])) (hp : p.1 = u) : w.ownsRow B 31 1 v (O ++ [p]).length ((O ++ [p]).map (·.1)) := by
  rw [List.length_append, List.map_append, List.map_singleton, hp]; exact h
set_option maxRecDepth 20000 in
set_option maxHeartbeats 3200000 in
theorem l3Merge_any (v v' : Value) (PA PB : List (Value × List Int)) (w : World) (hr : RowsP w v PA) (hr' : RowsP w v' PB) (hl : PA.length ≤ 1048576) (hl' : PB.length ≤ 1048576)
    (ht : ∀ i (h : i < PA.length), PA[i].2.length ≤ 1048576) (ht' : ∀ i (h : i < PB.length), PB[i].2.length ≤ 1048576) :
    Calls Try.prog 48 #[v, v'] w (RetM (mergeP PA PB) w) := by
  obtain ⟨i0, hi, hz0, hz1, hz2⟩ := info_parts infoSj
  have HI : Hid (_ ∧ _ ∧ _ ∧ _) := Lib.hid ⟨hi, hz0, hz1, hz2⟩
  clear hi hz0 hz1 hz2
  have HRA := Lib.hid hr
  have HRB := Lib.hid hr'
  obtain ⟨a, cap, rfl, -⟩ := hr
  obtain ⟨a', cap', rfl, -⟩ := hr'
  have HT := Lib.hid ht
  have HT' := Lib.hid ht'
  clear ht ht'
  have HML := Lib.hid (mergeP_len PA PB)
  go_enter Try.func48, Try.ntmps48
  go_wp2_with fail
  have ho0 : (w.alloc (.cells #[] 31)).ownsRow w.heap.size 31 1 (.slice (some ⟨w.heap.size, 0, none⟩) 0 0) 0 [] := World.ownsRow_made w #[] 0 (Nat.le_refl _) (by unfold maxLen; omega) rfl
  go_loopw [5, 6, 7] (fun ov iv kv wr => ∃ (i k : Nat) (O : List (Value × List Int)), i ≤ PA.length ∧ k ≤ PB.length ∧ iv = .int .i64 (i : Int) ∧ kv = .int .i64 (k : Int) ∧ Hid (mergeP PA PB = O ++ mergeP (PA.drop i) (PB.drop k)) ∧ Hid (wr.ownsRow w.heap.size 31 1 ov O.length (O.map (·.1))) ∧ Below w.heap.size w wr) (fun _ iv kv _ => (PA.length - (intOf iv).toNat) + (PB.length - (intOf kv).toNat))
  case atStart => exact ⟨0, 0, [], by omega, by omega, rfl, rfl, Lib.hid (by simp), Lib.hid ho0, (Below.refl _ _).alloc (Nat.le_refl _) _⟩
  case round =>
    clear ho0
    obtain ⟨i, k, O, hi, hk, rfl, rfl, hM, HO, hb⟩ := hrel
    have hOl : O.length ≤ 2097152 := by
      have h1 := HML.out
      rw [hM.out, List.length_append] at h1
      omega
    by_cases hki : k < PB.length
    · by_cases hii : i < PA.length
      · obtain ⟨a2, cap2, hv2, hcells⟩ := HRA.out.kept hb
        simp at hv2
        obtain ⟨rfl, -⟩ := hv2
        obtain ⟨x, rfl, hx, hu⟩ := hcells i hii
        obtain ⟨b2, capb2, hvb2, hcellsb⟩ := HRB.out.kept hb
        simp at hvb2
        obtain ⟨rfl, -⟩ := hvb2
        obtain ⟨xb, rfl, hxb, hub⟩ := hcellsb k hki
        have HL := Lib.hid (fun n => l3Less_any PA[i].1 PB[k].1 _ _ (wr.drewN n) (hu.kept (below_drewN (Below.refl _ _) n)) (hub.kept (below_drewN (Below.refl _ _) n)) (by have := HT.out i hii; omega) (by have := HT'.out k hki; omega))
        have HG := Lib.hid (fun n => l3Less_any PB[k].1 PA[i].1 _ _ (wr.drewN n) (hub.kept (below_drewN (Below.refl _ _) n)) (hu.kept (below_drewN (Below.refl _ _) n)) (by have := HT'.out k hki; omega) (by have := HT.out i hii; omega))
        have hkb : ((k : Int) == (PB.length : Int)) = false := by simp; omega
        have hib : ((i : Int) == (PA.length : Int)) = false := by simp; omega
        have hme := merge_two hii hki
        obtain ⟨ua, uc, hue, -⟩ := hu
        obtain ⟨va, vc, hve, -⟩ := hub
        obtain ⟨p, hp⟩ : ∃ p, PA[i] = p := ⟨_, rfl⟩
        obtain ⟨q, hq⟩ : ∃ q, PB[k] = q := ⟨_, rfl⟩
        rw [hp] at hx hue HL HG hme
        rw [hq] at hxb hve HL HG hme
        rw [hue] at hx HL HG
        rw [hve] at hxb HL HG
        obtain ⟨R, hR⟩ : ∃ R : Nat, p.2.length = R := ⟨_, rfl⟩
        obtain ⟨T, hT⟩ : ∃ T : Nat, q.2.length = T := ⟨_, rfl⟩
        rw [hR] at hx hue HL HG
        rw [hT] at hxb hve HL HG
        have z0 : (0 : Int) ≤ (i : Int) := by omega
        have z1 : (i : Int) < (PA.length : Int) := by omega
        have y0 : (0 : Int) ≤ (k : Int) := by omega
        have y1 : (k : Int) < (PB.length : Int) := by omega
        clear hcells hcellsb hp hq hR hT
        cases h1 : lessR p.2 q.2 with
        | true =>
          have HN : Hid (mergeP PA PB = (O ++ [p]) ++ mergeP (PA.drop (i + 1)) (PB.drop k)) := Lib.hid (by rw [hM.out, hme, if_pos h1]; simp)
          rw [h1] at HL
          have HU := Lib.hid hue
          clear h1 hme HG hue hve
          go_wp2_with fail
          go_quiet ((go_at_call 55; exact Calls.quiet_of (HL.out _)))
          go_wp2_with (at_builtin; refine wpList_append_own _ rfl _ _ 22 rfl w.heap.size 31 i0 (.slice none 0 0) 1 24 Try.underlying22 HI.out.1 HI.out.2.1 HI.out.2.2.1 HI.out.2.2.2 rfl (by decide) _ _ _ rfl (World.ownsRow.alloc HO.out _) ⟨wr.heap.size, 0, none⟩ 1 1 [.slice ua R uc] rfl rfl (cell_one_new _ _ _) (one_slice _ _ _) (by unfold maxLen; omega) (by omega) (le_alloc hb (Nat.le_refl _) _) ?_; intro v' w1 hown' hgrow _)
          have ho' := Lib.hid (own_snoc hown' HU.out)
          have hb' := (hb.alloc hb.size (.cells #[.slice ua R uc] 31)).grown (w := wr.alloc (.cells #[.slice ua R uc] 31)) ⟨hgrow.os, hgrow.tape, hgrow.output, hgrow.size, hgrow.block⟩ (by simp; have := hb.size; omega) (fun q hq => (World.ownsRow.lt HO.out q hq).1)
          clear hown' hgrow
          go_wp2_with fail
          go_roundw
          case rel => exact ⟨i + 1, k, O ++ [p], by omega, by omega, by go_num, rfl, HN, ho', hb'⟩
          case measure => simp [intOf]; omega
        | false =>
          rw [h1] at HL
          cases h2 : lessR q.2 p.2 with
          | true =>
            have HN : Hid (mergeP PA PB = (O ++ [q]) ++ mergeP (PA.drop i) (PB.drop (k + 1))) := Lib.hid (by rw [hM.out, hme, if_neg (by rw [h1]; simp), if_pos h2]; simp)
            rw [h2] at HG
            have HU := Lib.hid hve
            clear h1 h2 hme hue hve
            go_wp2_with fail
            go_quiet ((go_at_call 55; exact Calls.quiet_of (HL.out _)))
            go_wp2_with fail
            go_quiet ((go_at_call 55; exact quiet_on HG.out))
            go_wp2_with (at_builtin; refine wpList_append_own _ rfl _ _ 22 rfl w.heap.size 31 i0 (.slice none 0 0) 1 24 Try.underlying22 HI.out.1 HI.out.2.1 HI.out.2.2.1 HI.out.2.2.2 rfl (by decide) _ _ _ rfl (World.ownsRow.alloc HO.out _) ⟨wr.heap.size, 0, none⟩ 1 1 [.slice va T vc] rfl rfl (cell_one_new _ _ _) (one_slice _ _ _) (by unfold maxLen; omega) (by omega) (le_alloc hb (Nat.le_refl _) _) ?_; intro v' w1 hown' hgrow _)
            have ho' := Lib.hid (own_snoc hown' HU.out)
            have hb' := (hb.alloc hb.size (.cells #[.slice va T vc] 31)).grown (w := wr.alloc (.cells #[.slice va T vc] 31)) ⟨hgrow.os, hgrow.tape, hgrow.output, hgrow.size, hgrow.block⟩ (by simp; have := hb.size; omega) (fun q hq => (World.ownsRow.lt HO.out q hq).1)
            clear hown' hgrow
            go_wp2_with fail
            go_roundw
            case rel => exact ⟨i, k + 1, O ++ [q], by omega, by omega, rfl, by go_num, HN, ho', hb'⟩
            case measure => simp [intOf]; omega
          | false =>
            have HN : Hid (mergeP PA PB = O ++ mergeP (PA.drop i) (PB.drop (k + 1))) := Lib.hid (by rw [hM.out, hme, if_neg (by rw [h1]; simp), if_neg (by rw [h2]; simp)])
            rw [h2] at HG
            clear h1 h2 hme hue hve
            go_wp2_with fail
            go_quiet ((go_at_call 55; exact Calls.quiet_of (HL.out _)))
            go_wp2_with fail
            go_quiet ((go_at_call 55; exact quiet_on HG.out))
            go_wp2_with fail
            go_roundw
            case rel => exact ⟨i, k + 1, O, by omega, by omega, rfl, by go_num, HN, HO, below_drewN hb _⟩
            case measure => simp [intOf]; omega
      · obtain ⟨b2, capb2, hvb2, hcellsb⟩ := HRB.out.kept hb
        simp at hvb2
        obtain ⟨rfl, -⟩ := hvb2
        obtain ⟨xb, rfl, hxb, hub⟩ := hcellsb k hki
        obtain ⟨ua, uc, hue, -⟩ := hub
        have hib : ((i : Int) == (PA.length : Int)) = true := by simp; omega
        have hkb : ((k : Int) == (PB.length : Int)) = false := by simp; omega
        have HN : Hid (mergeP PA PB = (O ++ [PB[k]]) ++ mergeP (PA.drop i) (PB.drop (k + 1))) := Lib.hid (by
          rw [hM.out, show PA.drop i = [] from List.drop_eq_nil_of_le (by omega), merge_right hki]; simp)
        obtain ⟨p, hp⟩ : ∃ p, PB[k] = p := ⟨_, rfl⟩
        rw [hp] at hxb hue HN
        rw [hue] at hxb
        have HU := Lib.hid hue
        obtain ⟨R, hR⟩ : ∃ R : Nat, p.2.length = R := ⟨_, rfl⟩
        rw [hR] at hxb HU
        have y0 : (0 : Int) ≤ (k : Int) := by omega
        have y1 : (k : Int) < (PB.length : Int) := by omega
        clear hcellsb hue hp hR
        go_wp2_with fail
        go_quiet (fail)
        go_wp2_with fail
        go_quiet (fail)
        go_wp2_with (at_builtin; refine wpList_append_own _ rfl _ _ 22 rfl w.heap.size 31 i0 (.slice none 0 0) 1 24 Try.underlying22 HI.out.1 HI.out.2.1 HI.out.2.2.1 HI.out.2.2.2 rfl (by decide) _ _ _ rfl (World.ownsRow.alloc HO.out _) ⟨wr.heap.size, 0, none⟩ 1 1 [.slice ua R uc] rfl rfl (cell_one_new _ _ _) (one_slice _ _ _) (by unfold maxLen; omega) (by omega) (le_alloc hb (Nat.le_refl _) _) ?_; intro v' w1 hown' hgrow _)
        have ho' := Lib.hid (own_snoc hown' HU.out)
        have hb' := (hb.alloc hb.size (.cells #[.slice ua R uc] 31)).grown (w := wr.alloc (.cells #[.slice ua R uc] 31)) ⟨hgrow.os, hgrow.tape, hgrow.output, hgrow.size, hgrow.block⟩ (by simp; have := hb.size; omega) (fun q hq => (World.ownsRow.lt HO.out q hq).1)
        clear hown' hgrow
        go_wp2_with fail
        go_roundw
        case rel => exact ⟨i, k + 1, O ++ [p], by omega, by omega, rfl, by go_num, HN, ho', hb'⟩
        case measure => simp [intOf]; omega
    · by_cases hii : i < PA.length
      · obtain ⟨a2, cap2, hv2, hcells⟩ := HRA.out.kept hb
        simp at hv2
        obtain ⟨rfl, -⟩ := hv2
        obtain ⟨x, rfl, hx, hu⟩ := hcells i hii
        obtain ⟨ua, uc, hue, -⟩ := hu
        have hkb : ((k : Int) == (PB.length : Int)) = true := by simp; omega
        have HN : Hid (mergeP PA PB = (O ++ [PA[i]]) ++ mergeP (PA.drop (i + 1)) (PB.drop k)) := Lib.hid (by
          rw [hM.out, show PB.drop k = [] from List.drop_eq_nil_of_le (by omega), merge_left hii]; simp)
        obtain ⟨p, hp⟩ : ∃ p, PA[i] = p := ⟨_, rfl⟩
        rw [hp] at hx hue HN
        rw [hue] at hx
        have HU := Lib.hid hue
        obtain ⟨R, hR⟩ : ∃ R : Nat, p.2.length = R := ⟨_, rfl⟩
        rw [hR] at hx HU
        have z0 : (0 : Int) ≤ (i : Int) := by omega
        have z1 : (i : Int) < (PA.length : Int) := by omega
        clear hcells hue hp hR
        go_wp2_with fail
        go_quiet (fail)
        go_wp2_with (at_builtin; refine wpList_append_own _ rfl _ _ 22 rfl w.heap.size 31 i0 (.slice none 0 0) 1 24 Try.underlying22 HI.out.1 HI.out.2.1 HI.out.2.2.1 HI.out.2.2.2 rfl (by decide) _ _ _ rfl (World.ownsRow.alloc HO.out _) ⟨wr.heap.size, 0, none⟩ 1 1 [.slice ua R uc] rfl rfl (cell_one_new _ _ _) (one_slice _ _ _) (by unfold maxLen; omega) (by omega) (le_alloc hb (Nat.le_refl _) _) ?_; intro v' w1 hown' hgrow _)
        have ho' := Lib.hid (own_snoc hown' HU.out)
        have hb' := (hb.alloc hb.size (.cells #[.slice ua R uc] 31)).grown (w := wr.alloc (.cells #[.slice ua R uc] 31)) ⟨hgrow.os, hgrow.tape, hgrow.output, hgrow.size, hgrow.block⟩ (by simp; have := hb.size; omega) (fun q hq => (World.ownsRow.lt HO.out q hq).1)
        clear hown' hgrow
        go_wp2_with fail
        go_roundw
        case rel => exact ⟨i + 1, k, O ++ [p], by omega, by omega, by go_num, rfl, HN, ho', hb'⟩
        case measure => simp [intOf]; omega
      · have HF : Hid (mergeP PA PB = O) := Lib.hid (by rw [hM.out, show PA.drop i = [] from List.drop_eq_nil_of_le (by omega), show PB.drop k = [] from List.drop_eq_nil_of_le (by omega), mergeP_nil_left, List.append_nil])
        go_wp2_with fail
        go_ret
        exact ⟨_, rfl, by rw [HF.out]; exact HO.out, hb⟩
end Go.Proofs.Ytnelddlbpdpndaa
