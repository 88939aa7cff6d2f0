/- Texts of this claim, merged: SpecP, SpecP2, SpecP3. Conditions: as stated. -/
import Derived.Test.YtpkcffbfgocndaaGreatDoorMd
import Derived.Deep.RegionHeld3
import Derived.Deep.AppendLies
namespace Go.Proofs.YtpkcffbfgocndaaGreatDoor
open Go.RowKit

theorem lessR_drop {a b : List Int} {k : Nat} (h1 : k < a.length) (h2 : k < b.length) : lessR (a.drop k) (b.drop k) = if a[k] = b[k] then lessR (a.drop (k + 1)) (b.drop (k + 1)) else decide (a[k] < b[k]) := by
  rw [List.drop_eq_getElem_cons h1, List.drop_eq_getElem_cons h2]; rfl
theorem lessR_end {a b : List Int} {k : Nat} (hk : k ≤ a.length) (hk2 : k ≤ b.length) (h : ¬ (k < a.length ∧ k < b.length)) : lessR (a.drop k) (b.drop k) = decide (a.length < b.length) := by
  by_cases h1 : k < a.length
  · have h2 : k = b.length := by omega
    rw [show b.drop k = [] from List.drop_eq_nil_of_le (by omega), List.drop_eq_getElem_cons h1, decide_eq_false (by omega)]
    rfl
  · have h1' : k = a.length := by omega
    rw [h1', List.drop_length]
    by_cases h2 : a.length < b.length
    · rw [List.drop_eq_getElem_cons h2, decide_eq_true h2]; rfl
    · rw [List.drop_eq_nil_of_le (by omega), decide_eq_false h2]; rfl
theorem quiet_on {P : Program} {f : FuncId} {args : Array Value} {w : World} {a n : Nat} {v : Value} (h : ∀ k, Calls P f args (w.drewN k) fun e w' => e = .returned v ∧ ∃ m, w' = (w.drewN k).drewN m) :
    Calls P f args (w.drewN (a + n)) fun e w' => e = .returned v ∧ ∃ m, w' = w.drewN (a + m) :=
  (h (a + n)).mono fun e w' hh => by
    obtain ⟨m, hm⟩ := hh.2
    exact ⟨hh.1, n + m, by rw [hm, World.drewN_drewN, ← Nat.add_assoc]⟩
theorem drew3 (w : World) (n a b : Nat) : ∃ k, ((w.drewN n).drewN a).drewN b = w.drewN k := ⟨_, by rw [World.drewN_drewN, World.drewN_drewN]⟩
set_option maxHeartbeats 1600000 in
theorem l3Less_any (v v' : Value) (l l' : List Int) (w : World) (hr : ReadI w v l) (hr' : ReadI w v' l') (hl : l.length ≤ 1000000000) (hl' : l'.length ≤ 1000000000) :
    Calls Tryz.prog 81 #[v, v'] w fun e w' => e = .returned (.bool (lessR l l')) ∧ ∃ m, w' = w.drewN m := by
  obtain ⟨a, cap, rfl, ha⟩ := hr
  obtain ⟨a', cap', rfl, ha'⟩ := hr'
  have HA := Lib.hid ha
  have HA' := Lib.hid ha'
  clear ha ha'
  go_enter Tryz.func81, Tryz.ntmps81
  go_wp2_with fail
  go_loopw [5] (fun iv wr => ∃ (k n : Nat), k ≤ l.length ∧ k ≤ l'.length ∧ iv = .int .i64 (k : Int) ∧ Hid (lessR l l' = lessR (l.drop k) (l'.drop k)) ∧ wr = w.drewN n) (fun iv _ => l.length - (intOf iv).toNat)
  case atStart => exact ⟨0, 0, by omega, by omega, rfl, Lib.hid rfl, rfl⟩
  case round =>
    obtain ⟨k, n, hk, hk', rfl, hsame, rfl⟩ := hrel
    by_cases hlt : k < l.length ∧ k < l'.length
    · obtain ⟨hlt1, hlt2⟩ := hlt
      obtain ⟨x, rfl, hx⟩ := HA.out k hlt1
      obtain ⟨x', rfl, hx'⟩ := HA'.out k hlt2
      have z0 : (0 : Int) ≤ (k : Int) := by omega
      have z1 : (k : Int) < (l.length : Int) := by omega
      have z2 : (k : Int) < (l'.length : Int) := by omega
      have HS := Lib.hid (lessR_drop hlt1 hlt2)
      by_cases he : l[k] = l'[k]
      · have hb : (l[k] != l'[k]) = false := by simp [he]
        have HE := Lib.hid he
        clear he
        go_wp2_with fail
        go_quiet (fail)
        go_wp2_with fail
        go_roundw
        case rel => exact ⟨k + 1, _, by omega, by omega, by go_num, Lib.hid (by rw [hsame.out, HS.out, if_pos HE.out]), rfl⟩
        case measure => simp [intOf]; omega
      · have hb : (l[k] != l'[k]) = true := by simpa using he
        have HE := Lib.hid he
        clear he
        go_wp2_with fail
        go_quiet (fail)
        go_wp2_with fail
        go_quiet (fail)
        go_wp2_with fail
        go_ret
        exact ⟨ret_b (by rw [hsame.out, HS.out, if_neg HE.out]), drew3 _ _ _ _⟩
    · have HS := Lib.hid (lessR_end hk hk' hlt)
      have hlt2 : ¬ k < l.length ∨ ¬ k < l'.length := by omega
      by_cases h1 : k < l.length
      · have h2 : ¬ k < l'.length := by omega
        clear hlt hlt2
        go_wp2_with fail
        go_ret
        exact ⟨ret_b (by rw [hsame.out, HS.out]), _, rfl⟩
      · clear hlt hlt2
        go_wp2_with fail
        go_ret
        exact ⟨ret_b (by rw [hsame.out, HS.out]), _, rfl⟩

/-! ### Rows beside their values -/
/-- The slice value v holds these values, and each can be read as its row. -/
def RowsP (w : World) (v : Value) (P : List (Value × List Int)) : Prop :=
  ∃ a cap, v = .slice a P.length cap ∧ ∀ i (h : i < P.length), ∃ x, a = some x ∧ w.cell? (x.add i) = some P[i].1 ∧ ReadI w P[i].1 P[i].2
theorem RowsP.kept {w w' : World} {v : Value} {P : List (Value × List Int)} (h : RowsP w v P) (hb : Below w.heap.size w w') : RowsP w' v P := by
  obtain ⟨a, cap, hv, hc⟩ := h
  refine ⟨a, cap, hv, fun i hi => ?_⟩
  obtain ⟨x, hx, hcell, hr⟩ := hc i hi
  exact ⟨x, hx, (hb.cell (World.block_lt_of_cell? w _ hcell)).trans hcell, hr.kept hb⟩
/-- The merge of two lists in order: a new outer row of the given values. -/
def RetM (M : List (Value × List Int)) (w : World) (e : Ending) (w' : World) : Prop := ∃ v, e = .returned v ∧ w'.ownsRow w.heap.size 37 1 v M.length (M.map (·.1)) ∧ Below w.heap.size w w'
theorem merge_left {PA : List (Value × List Int)} {i : Nat} (h : i < PA.length) : mergeP (PA.drop i) [] = PA[i] :: mergeP (PA.drop (i + 1)) [] := by
  rw [mergeP_nil_right, mergeP_nil_right, List.drop_eq_getElem_cons h]
theorem merge_right {PB : List (Value × List Int)} {k : Nat} (h : k < PB.length) : mergeP [] (PB.drop k) = PB[k] :: mergeP [] (PB.drop (k + 1)) := by
  rw [mergeP_nil_left, mergeP_nil_left, List.drop_eq_getElem_cons h]
theorem merge_two {PA PB : List (Value × List Int)} {i k : Nat} (hi : i < PA.length) (hk : k < PB.length) : mergeP (PA.drop i) (PB.drop k) =
    if lessR PA[i].2 PB[k].2 = true then PA[i] :: mergeP (PA.drop (i + 1)) (PB.drop k) else if lessR PB[k].2 PA[i].2 = true then PB[k] :: mergeP (PA.drop i) (PB.drop (k + 1)) else mergeP (PA.drop i) (PB.drop (k + 1)) := by
  rw [List.drop_eq_getElem_cons hi, List.drop_eq_getElem_cons hk, mergeP_cons]
theorem own_snoc {w : World} {B : Nat} {v u : Value} {O : List (Value × List Int)} {p : Value × List Int} (h : w.ownsRow B 37 1 v (O.length + 1) (O.map (·.1) ++ [u])) (hp : p.1 = u) : w.ownsRow B 37 1 v (O ++ [p]).length ((O ++ [p]).map (·.1)) := by
  rw [List.length_append, List.map_append, List.map_singleton, hp]; exact h
set_option maxRecDepth 20000 in
set_option maxHeartbeats 3200000 in
theorem l3Merge_any (v v' : Value) (PA PB : List (Value × List Int)) (w : World) (hr : RowsP w v PA) (hr' : RowsP w v' PB) (hl : PA.length ≤ 1048576) (hl' : PB.length ≤ 1048576)
    (ht : ∀ i (h : i < PA.length), PA[i].2.length ≤ 1048576) (ht' : ∀ i (h : i < PB.length), PB[i].2.length ≤ 1048576) :
    Calls Tryz.prog 69 #[v, v'] w (RetM (mergeP PA PB) w) := by
  obtain ⟨i0, hi, hz0, hz1, hz2⟩ := info_parts infoSj
  have HI : Hid (_ ∧ _ ∧ _ ∧ _) := Lib.hid ⟨hi, hz0, hz1, hz2⟩
  clear hi hz0 hz1 hz2
  have HRA := Lib.hid hr
  have HRB := Lib.hid hr'
  obtain ⟨a, cap, rfl, -⟩ := hr
  obtain ⟨a', cap', rfl, -⟩ := hr'
  have HT := Lib.hid ht
  have HT' := Lib.hid ht'
  clear ht ht'
  have HML := Lib.hid (mergeP_len PA PB)
  go_enter Tryz.func69, Tryz.ntmps69
  go_wp2_with fail
  have ho0 : (w.alloc (.cells #[] 37)).ownsRow w.heap.size 37 1 (.slice (some ⟨w.heap.size, 0, none⟩) 0 0) 0 [] := World.ownsRow_made w #[] 0 (Nat.le_refl _) (by unfold maxLen; omega) rfl
  go_loopw [5, 6, 7] (fun ov iv kv wr => ∃ (i k : Nat) (O : List (Value × List Int)), i ≤ PA.length ∧ k ≤ PB.length ∧ iv = .int .i64 (i : Int) ∧ kv = .int .i64 (k : Int) ∧ Hid (mergeP PA PB = O ++ mergeP (PA.drop i) (PB.drop k)) ∧ Hid (wr.ownsRow w.heap.size 37 1 ov O.length (O.map (·.1))) ∧ Below w.heap.size w wr) (fun _ iv kv _ => (PA.length - (intOf iv).toNat) + (PB.length - (intOf kv).toNat))
  case atStart => exact ⟨0, 0, [], by omega, by omega, rfl, rfl, Lib.hid (by simp), Lib.hid ho0, (Below.refl _ _).alloc (Nat.le_refl _) _⟩
  case round =>
    clear ho0
    obtain ⟨i, k, O, hi, hk, rfl, rfl, hM, HO, hb⟩ := hrel
    have hOl : O.length ≤ 2097152 := by
      have h1 := HML.out
      rw [hM.out, List.length_append] at h1
      omega
    by_cases hki : k < PB.length
    · by_cases hii : i < PA.length
      · obtain ⟨a2, cap2, hv2, hcells⟩ := HRA.out.kept hb
        simp at hv2
        obtain ⟨rfl, -⟩ := hv2
        obtain ⟨x, rfl, hx, hu⟩ := hcells i hii
        obtain ⟨b2, capb2, hvb2, hcellsb⟩ := HRB.out.kept hb
        simp at hvb2
        obtain ⟨rfl, -⟩ := hvb2
        obtain ⟨xb, rfl, hxb, hub⟩ := hcellsb k hki
        have HL := Lib.hid (fun n => l3Less_any PA[i].1 PB[k].1 _ _ (wr.drewN n) (hu.kept (below_drewN (Below.refl _ _) n)) (hub.kept (below_drewN (Below.refl _ _) n)) (by have := HT.out i hii; omega) (by have := HT'.out k hki; omega))
        have HG := Lib.hid (fun n => l3Less_any PB[k].1 PA[i].1 _ _ (wr.drewN n) (hub.kept (below_drewN (Below.refl _ _) n)) (hu.kept (below_drewN (Below.refl _ _) n)) (by have := HT'.out k hki; omega) (by have := HT.out i hii; omega))
        have hkb : ((k : Int) == (PB.length : Int)) = false := by simp; omega
        have hib : ((i : Int) == (PA.length : Int)) = false := by simp; omega
        have hme := merge_two hii hki
        obtain ⟨ua, uc, hue, -⟩ := hu
        obtain ⟨va, vc, hve, -⟩ := hub
        obtain ⟨p, hp⟩ : ∃ p, PA[i] = p := ⟨_, rfl⟩
        obtain ⟨q, hq⟩ : ∃ q, PB[k] = q := ⟨_, rfl⟩
        rw [hp] at hx hue HL HG hme
        rw [hq] at hxb hve HL HG hme
        rw [hue] at hx HL HG
        rw [hve] at hxb HL HG
        obtain ⟨R, hR⟩ : ∃ R : Nat, p.2.length = R := ⟨_, rfl⟩
        obtain ⟨T, hT⟩ : ∃ T : Nat, q.2.length = T := ⟨_, rfl⟩
        rw [hR] at hx hue HL HG
        rw [hT] at hxb hve HL HG
        have z0 : (0 : Int) ≤ (i : Int) := by omega
        have z1 : (i : Int) < (PA.length : Int) := by omega
        have y0 : (0 : Int) ≤ (k : Int) := by omega
        have y1 : (k : Int) < (PB.length : Int) := by omega
        clear hcells hcellsb hp hq hR hT
        cases h1 : lessR p.2 q.2 with
        | true =>
          have HN : Hid (mergeP PA PB = (O ++ [p]) ++ mergeP (PA.drop (i + 1)) (PB.drop k)) := Lib.hid (by rw [hM.out, hme, if_pos h1]; simp)
          rw [h1] at HL
          have HU := Lib.hid hue
          clear h1 hme HG hue hve
          go_wp2_with fail
          go_quiet ((go_at_call 81; exact Calls.quiet_of (HL.out _)))
          go_wp2_with (at_builtin; refine wpList_append_own _ rfl _ _ 24 rfl w.heap.size 37 i0 (.slice none 0 0) 1 24 Tryz.underlying24 HI.out.1 HI.out.2.1 HI.out.2.2.1 HI.out.2.2.2 rfl (by decide) _ _ _ rfl (World.ownsRow.alloc HO.out _) ⟨wr.heap.size, 0, none⟩ 1 1 [.slice ua R uc] rfl rfl (cell_one_new _ _ _) (one_slice _ _ _) (by unfold maxLen; omega) (by omega) (le_alloc hb (Nat.le_refl _) _) ?_; intro v' w1 hown' hgrow _)
          have ho' := Lib.hid (own_snoc hown' HU.out)
          have hb' := (hb.alloc hb.size (.cells #[.slice ua R uc] 37)).grown (w := wr.alloc (.cells #[.slice ua R uc] 37)) ⟨hgrow.os, hgrow.tape, hgrow.output, hgrow.size, hgrow.block⟩ (by simp; have := hb.size; omega) (fun q hq => (World.ownsRow.lt HO.out q hq).1)
          clear hown' hgrow
          go_wp2_with fail
          go_roundw
          case rel => exact ⟨i + 1, k, O ++ [p], by omega, by omega, by go_num, rfl, HN, ho', hb'⟩
          case measure => simp [intOf]; omega
        | false =>
          rw [h1] at HL
          cases h2 : lessR q.2 p.2 with
          | true =>
            have HN : Hid (mergeP PA PB = (O ++ [q]) ++ mergeP (PA.drop i) (PB.drop (k + 1))) := Lib.hid (by rw [hM.out, hme, if_neg (by rw [h1]; simp), if_pos h2]; simp)
            rw [h2] at HG
            have HU := Lib.hid hve
            clear h1 h2 hme hue hve
            go_wp2_with fail
            go_quiet ((go_at_call 81; exact Calls.quiet_of (HL.out _)))
            go_wp2_with fail
            go_quiet ((go_at_call 81; exact quiet_on HG.out))
            go_wp2_with (at_builtin; refine wpList_append_own _ rfl _ _ 24 rfl w.heap.size 37 i0 (.slice none 0 0) 1 24 Tryz.underlying24 HI.out.1 HI.out.2.1 HI.out.2.2.1 HI.out.2.2.2 rfl (by decide) _ _ _ rfl (World.ownsRow.alloc HO.out _) ⟨wr.heap.size, 0, none⟩ 1 1 [.slice va T vc] rfl rfl (cell_one_new _ _ _) (one_slice _ _ _) (by unfold maxLen; omega) (by omega) (le_alloc hb (Nat.le_refl _) _) ?_; intro v' w1 hown' hgrow _)
            have ho' := Lib.hid (own_snoc hown' HU.out)
            have hb' := (hb.alloc hb.size (.cells #[.slice va T vc] 37)).grown (w := wr.alloc (.cells #[.slice va T vc] 37)) ⟨hgrow.os, hgrow.tape, hgrow.output, hgrow.size, hgrow.block⟩ (by simp; have := hb.size; omega) (fun q hq => (World.ownsRow.lt HO.out q hq).1)
            clear hown' hgrow
            go_wp2_with fail
            go_roundw
            case rel => exact ⟨i, k + 1, O ++ [q], by omega, by omega, rfl, by go_num, HN, ho', hb'⟩
            case measure => simp [intOf]; omega
          | false =>
            have HN : Hid (mergeP PA PB = O ++ mergeP (PA.drop i) (PB.drop (k + 1))) := Lib.hid (by rw [hM.out, hme, if_neg (by rw [h1]; simp), if_neg (by rw [h2]; simp)])
            rw [h2] at HG
            clear h1 h2 hme hue hve
            go_wp2_with fail
            go_quiet ((go_at_call 81; exact Calls.quiet_of (HL.out _)))
            go_wp2_with fail
            go_quiet ((go_at_call 81; exact quiet_on HG.out))
            go_wp2_with fail
            go_roundw
            case rel => exact ⟨i, k + 1, O, by omega, by omega, rfl, by go_num, HN, HO, below_drewN hb _⟩
            case measure => simp [intOf]; omega
      · obtain ⟨b2, capb2, hvb2, hcellsb⟩ := HRB.out.kept hb
        simp at hvb2
        obtain ⟨rfl, -⟩ := hvb2
        obtain ⟨xb, rfl, hxb, hub⟩ := hcellsb k hki
        obtain ⟨ua, uc, hue, -⟩ := hub
        have hib : ((i : Int) == (PA.length : Int)) = true := by simp; omega
        have hkb : ((k : Int) == (PB.length : Int)) = false := by simp; omega
        have HN : Hid (mergeP PA PB = (O ++ [PB[k]]) ++ mergeP (PA.drop i) (PB.drop (k + 1))) := Lib.hid (by
          rw [hM.out, show PA.drop i = [] from List.drop_eq_nil_of_le (by omega), merge_right hki]; simp)
        obtain ⟨p, hp⟩ : ∃ p, PB[k] = p := ⟨_, rfl⟩
        rw [hp] at hxb hue HN
        rw [hue] at hxb
        have HU := Lib.hid hue
        obtain ⟨R, hR⟩ : ∃ R : Nat, p.2.length = R := ⟨_, rfl⟩
        rw [hR] at hxb HU
        have y0 : (0 : Int) ≤ (k : Int) := by omega
        have y1 : (k : Int) < (PB.length : Int) := by omega
        clear hcellsb hue hp hR
        go_wp2_with fail
        go_quiet (fail)
        go_wp2_with fail
        go_quiet (fail)
        go_wp2_with (at_builtin; refine wpList_append_own _ rfl _ _ 24 rfl w.heap.size 37 i0 (.slice none 0 0) 1 24 Tryz.underlying24 HI.out.1 HI.out.2.1 HI.out.2.2.1 HI.out.2.2.2 rfl (by decide) _ _ _ rfl (World.ownsRow.alloc HO.out _) ⟨wr.heap.size, 0, none⟩ 1 1 [.slice ua R uc] rfl rfl (cell_one_new _ _ _) (one_slice _ _ _) (by unfold maxLen; omega) (by omega) (le_alloc hb (Nat.le_refl _) _) ?_; intro v' w1 hown' hgrow _)
        have ho' := Lib.hid (own_snoc hown' HU.out)
        have hb' := (hb.alloc hb.size (.cells #[.slice ua R uc] 37)).grown (w := wr.alloc (.cells #[.slice ua R uc] 37)) ⟨hgrow.os, hgrow.tape, hgrow.output, hgrow.size, hgrow.block⟩ (by simp; have := hb.size; omega) (fun q hq => (World.ownsRow.lt HO.out q hq).1)
        clear hown' hgrow
        go_wp2_with fail
        go_roundw
        case rel => exact ⟨i, k + 1, O ++ [p], by omega, by omega, rfl, by go_num, HN, ho', hb'⟩
        case measure => simp [intOf]; omega
    · by_cases hii : i < PA.length
      · obtain ⟨a2, cap2, hv2, hcells⟩ := HRA.out.kept hb
        simp at hv2
        obtain ⟨rfl, -⟩ := hv2
        obtain ⟨x, rfl, hx, hu⟩ := hcells i hii
        obtain ⟨ua, uc, hue, -⟩ := hu
        have hkb : ((k : Int) == (PB.length : Int)) = true := by simp; omega
        have HN : Hid (mergeP PA PB = (O ++ [PA[i]]) ++ mergeP (PA.drop (i + 1)) (PB.drop k)) := Lib.hid (by
          rw [hM.out, show PB.drop k = [] from List.drop_eq_nil_of_le (by omega), merge_left hii]; simp)
        obtain ⟨p, hp⟩ : ∃ p, PA[i] = p := ⟨_, rfl⟩
        rw [hp] at hx hue HN
        rw [hue] at hx
        have HU := Lib.hid hue
        obtain ⟨R, hR⟩ : ∃ R : Nat, p.2.length = R := ⟨_, rfl⟩
        rw [hR] at hx HU
        have z0 : (0 : Int) ≤ (i : Int) := by omega
        have z1 : (i : Int) < (PA.length : Int) := by omega
        clear hcells hue hp hR
        go_wp2_with fail
        go_quiet (fail)
        go_wp2_with (at_builtin; refine wpList_append_own _ rfl _ _ 24 rfl w.heap.size 37 i0 (.slice none 0 0) 1 24 Tryz.underlying24 HI.out.1 HI.out.2.1 HI.out.2.2.1 HI.out.2.2.2 rfl (by decide) _ _ _ rfl (World.ownsRow.alloc HO.out _) ⟨wr.heap.size, 0, none⟩ 1 1 [.slice ua R uc] rfl rfl (cell_one_new _ _ _) (one_slice _ _ _) (by unfold maxLen; omega) (by omega) (le_alloc hb (Nat.le_refl _) _) ?_; intro v' w1 hown' hgrow _)
        have ho' := Lib.hid (own_snoc hown' HU.out)
        have hb' := (hb.alloc hb.size (.cells #[.slice ua R uc] 37)).grown (w := wr.alloc (.cells #[.slice ua R uc] 37)) ⟨hgrow.os, hgrow.tape, hgrow.output, hgrow.size, hgrow.block⟩ (by simp; have := hb.size; omega) (fun q hq => (World.ownsRow.lt HO.out q hq).1)
        clear hown' hgrow
        go_wp2_with fail
        go_roundw
        case rel => exact ⟨i + 1, k, O ++ [p], by omega, by omega, by go_num, rfl, HN, ho', hb'⟩
        case measure => simp [intOf]; omega
      · have HF : Hid (mergeP PA PB = O) := Lib.hid (by rw [hM.out, show PA.drop i = [] from List.drop_eq_nil_of_le (by omega), show PB.drop k = [] from List.drop_eq_nil_of_le (by omega), mergeP_nil_left, List.append_nil])
        go_wp2_with fail
        go_ret
        exact ⟨_, rfl, by rw [HF.out]; exact HO.out, hb⟩
end Go.Proofs.YtpkcffbfgocndaaGreatDoor
namespace Go.Proofs.YtpkcffbfgocndaaGreatDoor
open Go.RowKit

theorem slice_lo (x : Addr) (n cap h : Nat) (hh : h ≤ cap) (w : World) : (Instr.slice 24 (.slice (some x) n cap) none (some (.int .i64 (h : Int))) none).run Tryz.prog w = .ok (.slice (some x) h cap) w := by
  go_simp
theorem slice_hi (x : Addr) (n cap h : Nat) (h1 : h < n) (h2 : n ≤ cap) (w : World) : (Instr.slice 24 (.slice (some x) n cap) (some (.int .i64 (h : Int))) none none).run Tryz.prog w = .ok (.slice (some (x.add h)) (n - h) (cap - h)) w := by
  go_simp
  rw [if_pos (by omega), if_neg (by omega)]
theorem getD_take {α : Type} (l : List α) (h i : Nat) (d : α) (hi : i < h) : (l.take h).getD i d = l.getD i d := by
  rw [List.getD_eq_getElem?_getD, List.getD_eq_getElem?_getD, List.getElem?_take, if_pos hi]
theorem getD_drop {α : Type} (l : List α) (h i : Nat) (d : α) : (l.drop h).getD i d = l.getD (h + i) d := by
  rw [List.getD_eq_getElem?_getD, List.getD_eq_getElem?_getD, List.getElem?_drop]
theorem ReadSS.lo {w : World} {x : Addr} {cap h : Nat} {ll : List (List Int)} (hr : ReadSS w (.slice (some x) ll.length cap) ll) (hh : h ≤ ll.length) : ReadSS w (.slice (some x) h cap) (ll.take h) := by
  obtain ⟨a, cap', hv, hc⟩ := hr
  simp at hv
  obtain ⟨rfl, rfl⟩ := hv
  refine ⟨_, _, by rw [List.length_take, Nat.min_eq_left hh], fun i hi => ?_⟩
  rw [List.length_take] at hi
  obtain ⟨y, u, hy, hcell, hu⟩ := hc i (by omega)
  exact ⟨y, u, hy, hcell, by rw [getD_take _ _ _ _ (by omega)]; exact hu⟩
theorem ReadSS.hi {w : World} {x : Addr} {cap h : Nat} {ll : List (List Int)} (hr : ReadSS w (.slice (some x) ll.length cap) ll) : ReadSS w (.slice (some (x.add h)) (ll.length - h) (cap - h)) (ll.drop h) := by
  obtain ⟨a, cap', hv, hc⟩ := hr
  simp at hv
  obtain ⟨rfl, rfl⟩ := hv
  refine ⟨_, _, by rw [List.length_drop], fun i hi => ?_⟩
  rw [List.length_drop] at hi
  obtain ⟨y, u, hy, hcell, hu⟩ := hc (h + i) (by omega)
  simp at hy
  subst hy
  exact ⟨_, u, rfl, by rw [Addr.add_add]; exact hcell, by rw [getD_drop]; exact hu⟩
/-- An owned slice of rows, as rows beside their values. -/
theorem OwnSS.pairs {w : World} {B C : Nat} {v : Value} {ll : List (List Int)} (h : OwnSS w B C v ll) :
    ∃ P : List (Value × List Int), P.map (·.2) = ll ∧ RowsP w v P ∧ (∀ p ∈ P, OwnI w B p.1 p.2 ∧ ∀ g, p.1.ownBlock = some g → g < C) ∧ P.Pairwise (fun x y => ∀ g, x.1.ownBlock = some g → y.1.ownBlock ≠ some g) := by
  obtain ⟨V, o1, o2, o3, o4⟩ := h
  have hlen : ((List.range ll.length).map fun i => (V i, ll.getD i [])).length = ll.length := by simp
  have hget : ∀ i (h : i < ((List.range ll.length).map fun i => (V i, ll.getD i [])).length), ((List.range ll.length).map fun i => (V i, ll.getD i []))[i] = (V i, ll.getD i []) := fun i h => by simp
  refine ⟨(List.range ll.length).map fun i => (V i, ll.getD i []), ?_, ?_, ?_, ?_⟩
  · apply List.ext_getElem
    · simp
    · intro i h1 h2
      simp [List.getElem?_eq_getElem h2]
  · rcases ownsRow_shape o1 with ⟨rfl, hn⟩ | ⟨g, cap, rfl, -, -, -⟩
    · exact ⟨none, 0, by rw [hlen, hn], fun i hi => by rw [hlen] at hi; omega⟩
    · refine ⟨_, cap, by rw [hlen], fun i hi => ?_⟩
      rw [hget i hi]
      rw [hlen] at hi
      refine ⟨_, rfl, ?_, (o3 i hi).1.read⟩
      rw [add_zero_off, World.ownsRow.cellAt o1 i (by omega)]
      simp [hi]
  · intro p hp
    rw [List.mem_map] at hp
    obtain ⟨i, hi, rfl⟩ := hp
    exact o3 i (List.mem_range.1 hi)
  · rw [List.pairwise_iff_getElem]
    intro i j hi hj hij
    rw [hget i hi, hget j hj]
    exact o4 i j hij (by rw [hlen] at hj; exact hj)
theorem OwnSS.ofPairs {w : World} {B C : Nat} {v : Value} {P : List (Value × List Int)} (h1 : w.ownsRow B 37 1 v P.length (P.map (·.1))) (hC : ∀ g, v.ownBlock = some g → g < C)
    (h2 : ∀ p ∈ P, OwnI w B p.1 p.2 ∧ ∀ g, p.1.ownBlock = some g → g < C) (h3 : P.Pairwise (fun x y => ∀ g, x.1.ownBlock = some g → y.1.ownBlock ≠ some g)) : OwnSS w B C v (P.map (·.2)) := by
  have hg : ∀ i (h : i < P.length), (P.getD i (undef, [])) = P[i] := fun i h => by rw [List.getD_eq_getElem?_getD, List.getElem?_eq_getElem h]; rfl
  have hg2 : ∀ i (h : i < P.length), (P.map (·.2)).getD i [] = P[i].2 := fun i h => by rw [List.getD_eq_getElem?_getD, List.getElem?_eq_getElem (by simpa using h)]; simp
  refine ⟨fun i => (P.getD i (undef, [])).1, ?_, hC, fun i hi => ?_, fun i j hij hj g => ?_⟩
  · have e : (List.range (P.map (·.2)).length).map (fun i => (P.getD i (undef, [])).1) = P.map (·.1) := by
      apply List.ext_getElem
      · simp
      · intro i k1 k2
        simp only [List.length_map] at k2
        rw [List.getElem_map, List.getElem_range, List.getElem_map, hg i k2]
    rw [e, List.length_map]; exact h1
  · rw [List.length_map] at hi
    show OwnI w B (P.getD i (undef, [])).1 _ ∧ ∀ g, (P.getD i (undef, [])).1.ownBlock = some g → g < C
    rw [hg i hi, hg2 i hi]
    exact h2 _ (List.getElem_mem hi)
  · rw [List.length_map] at hj
    show (P.getD i (undef, [])).1.ownBlock = some g → (P.getD j (undef, [])).1.ownBlock ≠ some g
    rw [hg i (by omega), hg j hj]
    exact (List.pairwise_iff_getElem.1 h3) i j (by omega) hj hij g

theorem onceL_split (ll : List (List Int)) (h : Nat) {PA PB : List (Value × List Int)} (hA : PA.map (·.2) = onceL (ll.take h)) (hB : PB.map (·.2) = onceL (ll.drop h)) : (mergeP PA PB).map (·.2) = onceL ll := by
  have asc : ∀ P : List (Value × List Int), Asc (P.map (·.2)) → AscP P := fun P hp => by unfold Asc at hp; rw [List.pairwise_map] at hp; exact hp
  have csa : ∀ P : List (Value × List Int), AscP P → Asc (P.map (·.2)) := fun P hp => by unfold Asc; rw [List.pairwise_map]; exact hp
  apply onceL_eq
  · exact csa _ (mergeP_asc PA PB (asc _ (by rw [hA]; exact onceL_asc _)) (asc _ (by rw [hB]; exact onceL_asc _)))
  · intro z
    rw [mergeP_rows, hA, hB, onceL_mem, onceL_mem, ← List.mem_append, List.take_append_drop]
theorem onceL_one (r : List Int) : onceL [r] = [r] := rfl
/-- A list of rows that can be read and be cut. -/
def ReadC (w : World) (v : Value) (ll : List (List Int)) : Prop := ReadSS w v ll ∧ ∃ a cap, v = .slice a ll.length cap ∧ ll.length ≤ cap
theorem l3Once_nil (v : Value) (w : World) (hr : ReadC w v []) : Calls Tryz.prog 50 #[v] w (RetSS (onceL []) w) := by
  obtain ⟨-, a, cap, rfl, -⟩ := hr
  have ho : OwnSS (w.alloc (.cells #[] 37)) w.heap.size (w.heap.size + 1) (.slice (some ⟨w.heap.size, 0, none⟩) 0 0) [] :=
    ⟨fun _ => undef, World.ownsRow_made w #[] 0 (Nat.le_refl _) (by unfold maxLen; omega) rfl, (fun g hg => by simp [Value.ownBlock] at hg; omega), (fun i h => absurd h (Nat.not_lt_zero _)), (fun i j _ h => absurd h (Nat.not_lt_zero _))⟩
  go_enter Tryz.func50, Tryz.ntmps50
  go_wp2_with fail
  go_ret
  exact ⟨_, rfl, by rw [show onceL [] = [] from rfl]; simpa using ho, (Below.refl _ _).alloc (Nat.le_refl _) _⟩
theorem intsV_one (l : List Int) : ∀ u ∈ intsV l, u.oneCell' = true := by intro u hu; unfold intsV at hu; rw [List.mem_map] at hu; obtain ⟨x, -, rfl⟩ := hu; rfl
theorem intsV_news {w : World} {ad : Addr} {c : Nat} {l : List Int} (h : ReadI w (.slice (some ad) l.length c) l) : ∀ j u, (intsV l)[j]? = some u → w.cell? (ad.add j) = some u := by
  intro j u hu
  have hj : j < l.length := by
    have := (List.getElem?_eq_some_iff.1 hu).1
    rwa [intsV_length] at this
  rw [intsV_get l j hj] at hu
  obtain ⟨a, cap, hv, hc⟩ := h
  simp at hv
  obtain ⟨rfl, -⟩ := hv
  obtain ⟨x, hx, hcell⟩ := hc j hj
  simp at hx
  subst hx
  rw [hcell, ← hu]
set_option maxHeartbeats 1600000 in
theorem l3Once_one (r : List Int) (v : Value) (w : World) (hr : ReadC w v [r]) (hl : r.length ≤ 1048576) (hp : 0 < r.length) : Calls Tryz.prog 50 #[v] w (RetSS (onceL [r]) w) := by
  obtain ⟨i0, hi, hz0, hz1, hz2⟩ := info_parts infoSj
  have HI : Hid (_ ∧ _ ∧ _ ∧ _) := Lib.hid ⟨hi, hz0, hz1, hz2⟩
  clear hi hz0 hz1 hz2
  obtain ⟨j0, hi, hz0, hz1, hz2⟩ := info_parts info3j
  have HJ : Hid (_ ∧ _ ∧ _ ∧ _) := Lib.hid ⟨hi, hz0, hz1, hz2⟩
  clear hi hz0 hz1 hz2
  obtain ⟨hr1, a, cap, rfl, -⟩ := hr
  obtain ⟨a', cap', hv, hc⟩ := hr1
  simp at hv
  obtain ⟨rfl, rfl⟩ := hv
  obtain ⟨x, u, rfl, hx, hu⟩ := hc 0 (by simp)
  obtain ⟨ua, uc, hue, hcells⟩ := hu
  rw [show [r].getD 0 [] = r from rfl] at hue hcells
  subst hue
  obtain ⟨ad, rfl, -⟩ := hcells 0 hp
  have hread : ReadI w (.slice (some ad) r.length uc) r := ⟨_, _, rfl, hcells⟩
  have hbA := (Below.refl w.heap.size w).alloc (Nat.le_refl _) (.cells #[] 37)
  have hbB := hbA.alloc (by simp) (.cells #[] 3)
  have hx1 := (hbB.cell (World.block_lt_of_cell? w _ hx)).trans hx
  have e0 : x.add 0 = x := Addr.add_zero' x
  rw [e0] at hx1
  clear e0
  have HR := Lib.hid (hread.kept hbB)
  have HO1 : Hid (((w.alloc (.cells #[] 37)).alloc (.cells #[] 3)).ownsRow w.heap.size 3 1 (.slice (some ⟨w.heap.size + 1, 0, none⟩) 0 0) 0 []) := Lib.hid (by
    have h := World.ownsRow_made (w.alloc (.cells #[] 37)) #[] 0 (base := w.heap.size) (e := 3) (size := 1) (by simp) (by unfold maxLen; omega) rfl
    simpa using h)
  have HO0 := Lib.hid (World.ownsRow.alloc (World.ownsRow_made w #[] 0 (base := w.heap.size) (e := 37) (size := 1) (Nat.le_refl _) (by unfold maxLen; omega) rfl) (.cells #[] 3))
  clear hc hcells hread hbA
  have HBB := Lib.hid hbB
  clear hbB
  rw [show [r].length = 1 from rfl]
  go_enter Tryz.func50, Tryz.ntmps50
  go_wp2_with (first | (at_builtin; refine wpList_append_own _ rfl (.tmp 9) (.tmp 12) 37 rfl w.heap.size 3 j0 (.int .i64 0) 1 8 Tryz.underlying37 HJ.out.1 HJ.out.2.1 HJ.out.2.2.1 HJ.out.2.2.2 rfl (by decide) _ _ _ rfl HO1.out ad r.length uc (intsV r) rfl (by rw [intsV_length]; simp) (intsV_news HR.out) (intsV_one r) (by unfold maxLen; omega) (by omega) (by simp; omega) ?_; intro v1 w1 hown1 (hgrow1 : World.grownBy _ w1 (some (w.heap.size + 1))) _; have ho1 : OwnI w1 w.heap.size v1 r := (by unfold OwnI; simpa using hown1); have ho0 := World.ownsRow.kept HO0.out hgrow1 (.inr (by simp [Value.ownBlock])); have hb1 := HBB.out.grown hgrow1 (by simp; omega) (fun k hk => by simp at hk; omega); obtain ⟨a1, cap1, rfl, -⟩ := ho1.read; clear hown1 hgrow1) | (at_builtin; refine wpList_append_own _ rfl (.tmp 8) (.tmp 14) 24 rfl w.heap.size 37 i0 (.slice none 0 0) 1 24 Tryz.underlying24 HI.out.1 HI.out.2.1 HI.out.2.2.1 HI.out.2.2.2 rfl (by decide) _ _ _ rfl (World.ownsRow.alloc ho0 _) ⟨w1.heap.size, 0, none⟩ 1 1 [.slice a1 r.length cap1] rfl rfl (cell_one_new _ _ _) (one_slice _ _ _) (by unfold maxLen; omega) (by omega) (le_alloc hb1 (Nat.le_refl _) _) ?_; intro v2 w2 hown2 (hgrow2 : World.grownBy _ w2 (some w.heap.size)) _))
  have ho1' : OwnI (w1.alloc (.cells #[.slice a1 r.length cap1] 37)) w.heap.size (.slice a1 r.length cap1) r := World.ownsRow.alloc ho1 _
  have ho2 := ho1'.keptBy hgrow2 (fun g hg => row_apart (World.ownsRow.alloc ho0 (.cells #[.slice a1 r.length cap1] 37)) ho1' g (by simpa [Value.ownBlock] using hg))
  have hb2 := (hb1.alloc hb1.size (.cells #[.slice a1 r.length cap1] 37)).grown hgrow2 (by simp; have := hb1.size; omega) (fun k hk => by simp at hk; omega)
  have HOS : Hid (OwnSS w2 w.heap.size w2.heap.size v2 [r]) := Lib.hid (OwnSS.ofPairs (P := [(.slice a1 r.length cap1, r)]) (by simpa using hown2) (fun g hg => (World.ownsRow.lt hown2 g hg).2) (fun p hp => by simp at hp; subst hp; exact ⟨ho2, fun g hg => (ho2.lt g hg).2⟩) (List.pairwise_singleton _ _))
  clear hown2 hgrow2 ho1 ho1' ho0
  go_ret
  exact ⟨_, rfl, by rw [onceL_one]; exact HOS.out, hb2⟩
/-- What two recursive calls leave: the two halves, ready to be merged, and what the merge gives. -/
theorem merge_ready {W w1 w2 : World} {B : Nat} {v1 v2 : Value} {la lb : List (List Int)} (o1 : OwnSS w1 W.heap.size w1.heap.size v1 la) (b1 : Below W.heap.size W w1) (o2 : OwnSS w2 w1.heap.size w2.heap.size v2 lb) (b2 : Below w1.heap.size w1 w2)
    (ha : la.length ≤ 1048576 ∧ ∀ r ∈ la, r.length ≤ 1048576) (hb : lb.length ≤ 1048576 ∧ ∀ r ∈ lb, r.length ≤ 1048576) (hB : B ≤ W.heap.size) :
    ∃ PA PB : List (Value × List Int), Calls Tryz.prog 69 #[v1, v2] w2 (RetM (mergeP PA PB) w2) ∧
      ((PA.map (·.2) = la ∧ PB.map (·.2) = lb) ∧ ∀ w3 v3, w3.ownsRow w2.heap.size 37 1 v3 (mergeP PA PB).length ((mergeP PA PB).map (·.1)) → Below w2.heap.size w2 w3 → OwnSS w3 B w3.heap.size v3 ((mergeP PA PB).map (·.2))) := by
  obtain ⟨PA, a1, a2, a3, a4⟩ := (o1.same (Below.keeps b2 (Nat.le_refl _))).pairs
  obtain ⟨PB, c1, c2, c3, c4⟩ := o2.pairs
  have hal : PA.length = la.length := by rw [← a1, List.length_map]
  have hbl : PB.length = lb.length := by rw [← c1, List.length_map]
  refine ⟨PA, PB, l3Merge_any v1 v2 PA PB w2 a2 c2 (by omega) (by omega) (fun i h => ha.2 _ (by rw [← a1]; exact List.mem_map_of_mem (List.getElem_mem h))) (fun i h => hb.2 _ (by rw [← c1]; exact List.mem_map_of_mem (List.getElem_mem h))), ⟨a1, c1⟩, fun w3 v3 h3 b3 => ?_⟩
  have s1 := b1.size
  have s2 := b2.size
  have s3 := b3.size
  refine OwnSS.ofPairs ⟨h3.1, ?_⟩ (fun g hg => (World.ownsRow.lt h3 g hg).2) (fun p hp => ?_) (mergeP_pair PA PB a4 c4 fun x hx y hy => ⟨fun g h1 h2 => ?_, fun g h1 h2 => ?_⟩)
  · rcases h3.2 with hn | ⟨g, cap, cur, rfl, hb, rest⟩
    · exact .inl hn
    · exact .inr ⟨g, cap, cur, rfl, by omega, rest⟩
  · rcases mergeP_mem PA PB p hp with h | h
    · obtain ⟨k1, k2⟩ := a3 p h
      exact ⟨(k1.kept b3 (fun g hg => by have := k2 g hg; omega)).base (by omega), fun g hg => by have := k2 g hg; omega⟩
    · obtain ⟨k1, k2⟩ := c3 p h
      exact ⟨(k1.kept b3 (fun g hg => by have := k2 g hg; omega)).base (by omega), fun g hg => by have := k2 g hg; omega⟩
  · have e1 := (a3 x hx).2 g h1
    have e2 := ((c3 y hy).1.lt g h2).1
    omega
  · have e1 := (a3 x hx).2 g h2
    have e2 := ((c3 y hy).1.lt g h1).1
    omega
theorem rows_bd {ll : List (List Int)} {m : Nat} (ht : ∀ i, i < ll.length → (ll.getD i []).length ≤ m) : ∀ r ∈ ll, r.length ≤ m := by
  intro r hr
  obtain ⟨i, hi, rfl⟩ := List.mem_iff_getElem.1 hr
  have := ht i hi
  rwa [List.getD_eq_getElem?_getD, List.getElem?_eq_getElem hi] at this
theorem once_bd {ll : List (List Int)} {m : Nat} (hl : ll.length ≤ m) (ht : ∀ r ∈ ll, r.length ≤ m) : (onceL ll).length ≤ m ∧ ∀ r ∈ onceL ll, r.length ≤ m :=
  ⟨Nat.le_trans (onceL_len ll) hl, fun r hr => ht r ((onceL_mem ll r).1 hr)⟩
set_option maxRecDepth 20000 in
set_option maxHeartbeats 3200000 in
theorem l3Once_two (n : Nat) (ih : ∀ (ll : List (List Int)) (v : Value) (w : World), ll.length ≤ n → ll.length ≤ 1048576 → (∀ i, i < ll.length → (ll.getD i []).length ≤ 1048576 ∧ 0 < (ll.getD i []).length) → ReadC w v ll →
    Calls Tryz.prog 50 #[v] w (RetSS (onceL ll) w)) (ll : List (List Int)) (v : Value) (w : World) (hn : ll.length ≤ n + 1) (h2 : 2 ≤ ll.length) (hl : ll.length ≤ 1048576) (ht : ∀ i, i < ll.length → (ll.getD i []).length ≤ 1048576 ∧ 0 < (ll.getD i []).length) (hr : ReadC w v ll) :
    Calls Tryz.prog 50 #[v] w (RetSS (onceL ll) w) := by
  obtain ⟨hr1, a, cap, rfl, hcap⟩ := hr
  obtain ⟨x, rfl⟩ : ∃ x, a = some x := by
    obtain ⟨a', cap', hv, hc⟩ := hr1
    simp at hv
    obtain ⟨rfl, -⟩ := hv
    obtain ⟨x, u, hx, -⟩ := hc 0 (by omega)
    exact ⟨x, hx⟩
  obtain ⟨h, hh⟩ : ∃ h : Nat, h = ll.length / 2 := ⟨_, rfl⟩
  have hdiv : (ll.length : Int) / 2 = (h : Int) := by omega
  have hb1 : 1 ≤ h := by omega
  have hb2 : h < ll.length := by omega
  have hlen1 : (ll.take h).length = h := by rw [List.length_take]; omega
  have hlen2 : (ll.drop h).length = ll.length - h := List.length_drop
  have HLO := Lib.hid (fun w' (hb : Below w.heap.size w w') => ih (ll.take h) (.slice (some x) h cap) w' (by omega) (by omega) (fun i hi => by rw [getD_take _ _ _ _ (by omega)]; exact ht i (by omega)) ⟨(hr1.kept hb).lo (by omega), some x, cap, by rw [hlen1], by omega⟩)
  have HHI := Lib.hid (fun w' (hb : Below w.heap.size w w') => ih (ll.drop h) (.slice (some (x.add h)) (ll.length - h) (cap - h)) w' (by omega) (by omega) (fun i hi => by rw [getD_drop]; exact ht (h + i) (by omega)) ⟨(hr1.kept hb).hi, some (x.add h), cap - h, by rw [hlen2], by omega⟩)
  have hs1 := fun W => slice_lo x ll.length cap h (by omega) W
  have hs2 := fun W => slice_hi x ll.length cap h hb2 hcap W
  have HLn := Lib.hid (And.intro (once_bd (m := 1048576) (ll := ll.take h) (by omega) (fun r hr => rows_bd (fun i hi => (ht i hi).1) r (List.mem_of_mem_take hr))) (once_bd (m := 1048576) (ll := ll.drop h) (by omega) (fun r hr => rows_bd (fun i hi => (ht i hi).1) r (List.mem_of_mem_drop hr))))
  have HD := Lib.hid ((Below.refl w.heap.size w).alloc (Nat.le_refl _) (.cells #[] 37)).drew
  have hne0 : ((ll.length : Int) == 0) = false := by rw [beq_eq_false_iff_ne]; omega
  have hne1 : ((ll.length : Int) == 1) = false := by rw [beq_eq_false_iff_ne]; omega
  have hwr : IntKind.i64.wrap (h : Int) = (h : Int) := by rw [IntKind.wrap_i64]; omega
  clear ht hr1 ih hlen1 hlen2 hh
  go_enter Tryz.func50, Tryz.ntmps50
  go_wp2_with fail
  refine wp_region_noPanic ?_
  refine wp_region_held_drew (S := (fun _ => True)) (by kernel_rfl) ?_ (fun hHeld => ?_)
  · ((try dsimp only); (try exact trivial))
  refine wpAnyH_take (i := 0) (v := ?_) rfl (by kernel_rfl) (by kernel_rfl) (by kernel_rfl) (fun _ _ _ h => h) (Or.inl ⟨by rfl, ?_⟩) (by assumption) ?_
  rotate_left
  · (intro w hSw; (try dsimp only at hSw); go_simp; (try with_reducible rfl))
  (try simp only [Act.put, List.getElem_toArray, List.getElem_cons_zero, List.setIfInBounds_toArray, List.set_cons_zero, List.set_cons_succ])
  refine wpAnyH_take (i := 1) (v := ?_) rfl (by kernel_rfl) (by kernel_rfl) (by kernel_rfl) (fun _ _ _ h => h) (Or.inl ⟨by rfl, ?_⟩) (by assumption) ?_
  rotate_left
  · (intro w hSw; (try dsimp only at hSw); go_simp; (try with_reducible rfl))
  (try simp only [Act.put, List.getElem_toArray, List.getElem_cons_succ, List.getElem_cons_zero, List.setIfInBounds_toArray, List.set_cons_zero, List.set_cons_succ])
  refine wpAnyH_take (i := 2) (v := ?_) rfl (by kernel_rfl) (by kernel_rfl) (by kernel_rfl) (fun _ _ _ h => h) (Or.inl ⟨by rfl, ?_⟩) (by assumption) ?_
  rotate_left
  · (intro w hSw; (try dsimp only at hSw); go_simp; (try with_reducible rfl))
  (try simp only [Act.put, List.getElem_toArray, List.getElem_cons_succ, List.getElem_cons_zero, List.setIfInBounds_toArray, List.set_cons_zero, List.set_cons_succ])
  refine wpAnyH_take (i := 3) (v := ?_) rfl (by kernel_rfl) (by kernel_rfl) (by kernel_rfl) (fun _ _ _ h => h) (Or.inl ⟨by rfl, ?_⟩) (by assumption) ?_
  rotate_left
  · (intro w hSw; (try dsimp only at hSw); go_simp; (try with_reducible rfl))
  (try simp only [Act.put, List.getElem_toArray, List.getElem_cons_succ, List.getElem_cons_zero, List.setIfInBounds_toArray, List.set_cons_zero, List.set_cons_succ])
  refine wpAnyH_take (i := 4) (v := ?_) rfl (by kernel_rfl) (by kernel_rfl) (by kernel_rfl) (fun _ _ _ h => h) (Or.inl ⟨by rfl, ?_⟩) (by assumption) ?_
  rotate_left
  · (intro w hSw; (try dsimp only at hSw); go_simp; (try with_reducible rfl))
  (try simp only [Act.put, List.getElem_toArray, List.getElem_cons_succ, List.getElem_cons_zero, List.setIfInBounds_toArray, List.set_cons_zero, List.set_cons_succ])
  refine wpAnyH_take (i := 6) (v := ?_) rfl (by kernel_rfl) (by kernel_rfl) (by kernel_rfl) (fun _ _ _ h => h) (Or.inl ⟨by rfl, ?_⟩) (by assumption) ?_
  rotate_left
  · (intro w hSw; (try dsimp only at hSw); go_simp; (try with_reducible rfl))
  (try simp only [Act.put, List.getElem_toArray, List.getElem_cons_succ, List.getElem_cons_zero, List.setIfInBounds_toArray, List.set_cons_zero, List.set_cons_succ])
  refine wpAnyH_take (i := 7) (v := ?_) rfl (by kernel_rfl) (by kernel_rfl) (by kernel_rfl) (fun _ _ _ h => h) (Or.inl ⟨by rfl, ?_⟩) (by assumption) ?_
  rotate_left
  · (intro w hSw; (try dsimp only at hSw); go_simp; (try with_reducible rfl))
  (try simp only [Act.put, List.getElem_toArray, List.getElem_cons_succ, List.getElem_cons_zero, List.setIfInBounds_toArray, List.set_cons_zero, List.set_cons_succ])
  refine wpAnyH_take (i := 8) (v := ?_) rfl (by kernel_rfl) (by kernel_rfl) (by kernel_rfl) (fun _ _ _ h => h) (Or.inl ⟨by rfl, ?_⟩) (by assumption) ?_
  rotate_left
  · (intro w hSw; (try dsimp only at hSw); go_simp; (try with_reducible rfl))
  (try simp only [Act.put, List.getElem_toArray, List.getElem_cons_succ, List.getElem_cons_zero, List.setIfInBounds_toArray, List.set_cons_zero, List.set_cons_succ])
  refine wpAnyH_take (i := 9) (v := ?_) rfl (by kernel_rfl) (by kernel_rfl) (by kernel_rfl) (fun _ _ _ h => h) (Or.inl ⟨by rfl, ?_⟩) (by assumption) ?_
  rotate_left
  · (intro w hSw; (try dsimp only at hSw); go_simp; (try with_reducible rfl))
  (try simp only [Act.put, List.getElem_toArray, List.getElem_cons_succ, List.getElem_cons_zero, List.setIfInBounds_toArray, List.set_cons_zero, List.set_cons_succ])
  refine wpAnyH_take (i := 10) (v := ?_) rfl (by kernel_rfl) (by kernel_rfl) (by kernel_rfl) (fun _ _ _ h => h) (Or.inl ⟨by rfl, ?_⟩) (by assumption) ?_
  rotate_left
  · (intro w hSw; (try dsimp only at hSw); go_simp; (try with_reducible rfl))
  (try simp only [Act.put, List.getElem_toArray, List.getElem_cons_succ, List.getElem_cons_zero, List.setIfInBounds_toArray, List.set_cons_zero, List.set_cons_succ])
  refine wpAnyH_ready (rs := [5]) (by kernel_rfl) (by simp) (AllReadyH.cons rfl (fun K hK => ?_) AllReadyH.nil)
  (first | ((first | (go_at_call 50; refine (HHI.out _ (HD.out.trans (b1.mono HD.out.size))).mono ?_; rintro e w2 ⟨v2, rfl, o2, b2⟩; obtain ⟨PA, PB, hMC, hMF⟩ := merge_ready o1 b1 o2 b2 HLn.out.1 HLn.out.2 HD.out.size) | (go_at_call 50; refine (HLO.out _ HD.out).mono ?_; rintro e w1 ⟨v1, rfl, o1, b1⟩) | (go_at_call 69; refine hMC.mono ?_; rintro e w3 ⟨v3, rfl, o3, b3⟩))) | (go_simp; (first | (go_at_call 50; refine (HHI.out _ (HD.out.trans (b1.mono HD.out.size))).mono ?_; rintro e w2 ⟨v2, rfl, o2, b2⟩; obtain ⟨PA, PB, hMC, hMF⟩ := merge_ready o1 b1 o2 b2 HLn.out.1 HLn.out.2 HD.out.size) | (go_at_call 50; refine (HLO.out _ HD.out).mono ?_; rintro e w1 ⟨v1, rfl, o1, b1⟩) | (go_at_call 69; refine hMC.mono ?_; rintro e w3 ⟨v3, rfl, o3, b3⟩))))
  (try (go_wp2_with fail))
  refine hK.out _ _ ?_ (fun hHeld => ?_)
  · ((try dsimp only); (try exact trivial))
  clear hK K
  (try simp only [Act.put, List.getElem_toArray, List.getElem_cons_succ, List.getElem_cons_zero, List.setIfInBounds_toArray, List.set_cons_zero, List.set_cons_succ])
  refine wpAnyH_ready (rs := [11]) (by kernel_rfl) (by simp) (AllReadyH.cons rfl (fun K hK => ?_) AllReadyH.nil)
  (first | ((first | (go_at_call 50; refine (HHI.out _ (HD.out.trans (b1.mono HD.out.size))).mono ?_; rintro e w2 ⟨v2, rfl, o2, b2⟩; obtain ⟨PA, PB, hMC, hMF⟩ := merge_ready o1 b1 o2 b2 HLn.out.1 HLn.out.2 HD.out.size) | (go_at_call 50; refine (HLO.out _ HD.out).mono ?_; rintro e w1 ⟨v1, rfl, o1, b1⟩) | (go_at_call 69; refine hMC.mono ?_; rintro e w3 ⟨v3, rfl, o3, b3⟩))) | (go_simp; (first | (go_at_call 50; refine (HHI.out _ (HD.out.trans (b1.mono HD.out.size))).mono ?_; rintro e w2 ⟨v2, rfl, o2, b2⟩; obtain ⟨PA, PB, hMC, hMF⟩ := merge_ready o1 b1 o2 b2 HLn.out.1 HLn.out.2 HD.out.size) | (go_at_call 50; refine (HLO.out _ HD.out).mono ?_; rintro e w1 ⟨v1, rfl, o1, b1⟩) | (go_at_call 69; refine hMC.mono ?_; rintro e w3 ⟨v3, rfl, o3, b3⟩))))
  (try (go_wp2_with fail))
  refine hK.out _ _ ?_ (fun hHeld => ?_)
  · ((try dsimp only); (try exact trivial))
  clear hK K
  (try simp only [Act.put, List.getElem_toArray, List.getElem_cons_succ, List.getElem_cons_zero, List.setIfInBounds_toArray, List.set_cons_zero, List.set_cons_succ])
  refine wpAnyH_ready (rs := [12]) (by kernel_rfl) (by simp) (AllReadyH.cons rfl (fun K hK => ?_) AllReadyH.nil)
  (first | ((first | (go_at_call 50; refine (HHI.out _ (HD.out.trans (b1.mono HD.out.size))).mono ?_; rintro e w2 ⟨v2, rfl, o2, b2⟩; obtain ⟨PA, PB, hMC, hMF⟩ := merge_ready o1 b1 o2 b2 HLn.out.1 HLn.out.2 HD.out.size) | (go_at_call 50; refine (HLO.out _ HD.out).mono ?_; rintro e w1 ⟨v1, rfl, o1, b1⟩) | (go_at_call 69; refine hMC.mono ?_; rintro e w3 ⟨v3, rfl, o3, b3⟩))) | (go_simp; (first | (go_at_call 50; refine (HHI.out _ (HD.out.trans (b1.mono HD.out.size))).mono ?_; rintro e w2 ⟨v2, rfl, o2, b2⟩; obtain ⟨PA, PB, hMC, hMF⟩ := merge_ready o1 b1 o2 b2 HLn.out.1 HLn.out.2 HD.out.size) | (go_at_call 50; refine (HLO.out _ HD.out).mono ?_; rintro e w1 ⟨v1, rfl, o1, b1⟩) | (go_at_call 69; refine hMC.mono ?_; rintro e w3 ⟨v3, rfl, o3, b3⟩))))
  (try (go_wp2_with fail))
  refine hK.out _ _ ?_ (fun hHeld => ?_)
  · ((try dsimp only); (try exact trivial))
  clear hK K
  (try simp only [Act.put, List.getElem_toArray, List.getElem_cons_succ, List.getElem_cons_zero, List.setIfInBounds_toArray, List.set_cons_zero, List.set_cons_succ])
  refine wpAnyH_take (i := 13) (v := ?_) rfl (by kernel_rfl) (by kernel_rfl) (by kernel_rfl) (fun _ _ _ h => h) (Or.inl ⟨by rfl, ?_⟩) (by assumption) ?_
  rotate_left
  · (intro w hSw; (try dsimp only at hSw); go_simp; (try with_reducible rfl))
  (try simp only [Act.put, List.getElem_toArray, List.getElem_cons_succ, List.getElem_cons_zero, List.setIfInBounds_toArray, List.set_cons_zero, List.set_cons_succ])
  refine wpAnyH_done (by kernel_rfl) ?_ _
  refine NoPanic.normal ?_
  obtain ⟨⟨e1, e2⟩, hF⟩ := hMF
  have HOS := Lib.hid (hF w3 v3 o3 b3)
  rw [onceL_split ll h e1 e2] at HOS
  have hb3 := (HD.out.trans (b1.mono HD.out.size)).trans (b2.mono (HD.out.trans (b1.mono HD.out.size)).size)
  have HB3 := Lib.hid (hb3.trans (b3.mono hb3.size))
  clear hF o3 hb3 b3 hMC
  go_wp2_with fail
  go_ret
  exact ⟨_, rfl, HOS.out, HB3.out⟩
theorem l3Once_any (n : Nat) : ∀ (ll : List (List Int)) (v : Value) (w : World), ll.length ≤ n → ll.length ≤ 1048576 → (∀ i, i < ll.length → (ll.getD i []).length ≤ 1048576 ∧ 0 < (ll.getD i []).length) → ReadC w v ll →
    Calls Tryz.prog 50 #[v] w (RetSS (onceL ll) w) := by
  induction n with
  | zero =>
    intro ll v w hn hl ht hr
    obtain rfl : ll = [] := List.eq_nil_of_length_eq_zero (by omega)
    exact l3Once_nil v w hr
  | succ n ih =>
    intro ll v w hn hl ht hr
    by_cases h0 : ll.length = 0
    · obtain rfl : ll = [] := List.eq_nil_of_length_eq_zero h0
      exact l3Once_nil v w hr
    · by_cases h1 : ll.length = 1
      · obtain ⟨r, rfl⟩ := List.length_eq_one_iff.1 h1
        have := ht 0 (by simp)
        exact l3Once_one r v w hr this.1 this.2
      · exact l3Once_two n ih ll v w hn (by omega) hl ht hr
end Go.Proofs.YtpkcffbfgocndaaGreatDoor
namespace Go.Proofs.YtpkcffbfgocndaaGreatDoor
open Go.RowKit

/-- The part of a row in the columns of a set. -/
def rowOf (q : Int) (r : List Int) : List Int := (mems q).map fun k => r.getD k.toNat 0
theorem rowOf_len (q : Int) (r : List Int) : (rowOf q r).length = (mems q).length := by simp [rowOf]
/-- The projection is asked of a table and a set of its columns that is not empty. -/
def projOk (c : Int) (ll : List (List Int)) (q : Int) : Bool := isT c ll && (isA c q && !(q == 0))
def projC (c : Int) (ll : List (List Int)) (q : Int) : Int := if projOk c ll q = true then ((mems q).length : Int) else 0
def projR (c : Int) (ll : List (List Int)) (q : Int) : List (List Int) := if projOk c ll q = true then onceL (ll.map (rowOf q)) else []
theorem mems_first : ∀ N : Fin 6, ∀ X : Fin 32, X.val < 2 ^ N.val → ∀ i ∈ mems ((X.val : Nat) : Int), 0 ≤ i ∧ i < ((N.val : Nat) : Int) := by decide +kernel
theorem mems_some : ∀ X : Fin 32, X.val ≠ 0 → 0 < (mems ((X.val : Nat) : Int)).length := by decide +kernel
theorem isA_mems {c q : Int} (h : isA c q = true) : ∀ i ∈ mems q, 0 ≤ i ∧ i < c := by
  unfold isA at h
  rw [decide_eq_true_iff] at h
  obtain ⟨⟨h0, h1⟩, h2, h3⟩ := h
  obtain ⟨N, rfl⟩ : ∃ N : Nat, c = (N : Int) := ⟨c.toNat, by omega⟩
  obtain ⟨X, rfl⟩ : ∃ X : Nat, q = (X : Int) := ⟨q.toNat, by omega⟩
  have e : ((2 : Int) ^ (N : Int).toNat) = ((2 ^ N : Nat) : Int) := by rw [Int.natCast_pow]; rfl
  rw [e] at h3
  have p1 : 2 ^ N ≤ 2 ^ 5 := Nat.pow_le_pow_right (by omega) (by omega)
  exact mems_first ⟨N, by omega⟩ ⟨X, by omega⟩ (by simp only; omega)
theorem isA_range {c q : Int} (h : isA c q = true) : 0 ≤ q ∧ q ≤ 31 := by
  unfold isA at h
  rw [decide_eq_true_iff] at h
  obtain ⟨⟨h0, h1⟩, h2, h3⟩ := h
  obtain ⟨N, rfl⟩ : ∃ N : Nat, c = (N : Int) := ⟨c.toNat, by omega⟩
  have e : ((2 : Int) ^ (N : Int).toNat) = ((2 ^ N : Nat) : Int) := by rw [Int.natCast_pow]; rfl
  rw [e] at h3
  have p1 : 2 ^ N ≤ 2 ^ 5 := Nat.pow_le_pow_right (by omega) (by omega)
  omega
theorem isA_pos {c q : Int} (h : isA c q = true) (h0 : q ≠ 0) : 0 < (mems q).length := by
  obtain ⟨a, b⟩ := isA_range h
  obtain ⟨X, rfl⟩ : ∃ X : Nat, q = (X : Int) := ⟨q.toNat, by omega⟩
  exact mems_some ⟨X, by omega⟩ (by simp only; omega)
theorem proj_tot {c : Int} {ll : List (List Int)} {q : Int} : (projR c ll q).length ≤ ll.length ∧ ∀ r ∈ projR c ll q, r.length ≤ 5 := by
  unfold projR
  split
  · refine ⟨by have := onceL_len (ll.map (rowOf q)); simpa using this, fun r hr => ?_⟩
    rw [onceL_mem, List.mem_map] at hr
    obtain ⟨a, -, rfl⟩ := hr
    rw [rowOf_len]; exact mems_len q
  · simp
/-- The four cells that a round loads. -/
theorem mk4 {wi w7 : World} {p1 p2 p3 p4 : Addr} {u1 u2 u3 u4 : Value} (hb : Below wi.heap.size wi w7) (h1 : wi.cell? p1 = some u1) (h2 : wi.cell? p2 = some u2) (h3 : wi.cell? p3 = some u3) (h4 : wi.cell? p4 = some u4) :
    w7.cell? p1 = some u1 ∧ w7.cell? p2 = some u2 ∧ w7.cell? p3 = some u3 ∧ w7.cell? p4 = some u4 ∧ Below wi.heap.size wi w7 :=
  have k : ∀ {a : Addr} {u : Value}, wi.cell? a = some u → w7.cell? a = some u := fun e => (hb.cell (World.block_lt_of_cell? wi _ e)).trans e
  ⟨k h1, k h2, k h3, k h4, hb⟩
set_option maxRecDepth 20000 in
set_option maxHeartbeats 3200000 in
theorem projectTable_any (c q : Int) (v : Value) (ll : List (List Int)) (w : World) (hr : ReadSS w v ll) (hl : ll.length ≤ 1048576) (ht : ∀ i, i < ll.length → (ll.getD i []).length ≤ 1048576) :
    Calls Tryz.prog 15 #[.agg #[.int .i64 c, v], .int .i64 q] w (RetT (projC c ll q) (projR c ll q) w) := by
  obtain ⟨i0, hi, hz0, hz1, hz2⟩ := info_parts infoSj
  have HI : Hid (_ ∧ _ ∧ _ ∧ _) := Lib.hid ⟨hi, hz0, hz1, hz2⟩
  clear hi hz0 hz1 hz2
  obtain ⟨j0, hi, hz0, hz1, hz2⟩ := info_parts info3j
  have HJ : Hid (_ ∧ _ ∧ _ ∧ _) := Lib.hid ⟨hi, hz0, hz1, hz2⟩
  clear hi hz0 hz1 hz2
  have HV := Lib.hid (fun w' (hb : Below w.heap.size w w') => isTable_any c v ll w' (hr.kept hb) hl ht)
  have HA := Lib.hid (fun w' => isA_any c q w')
  obtain ⟨a, cap, rfl, ha⟩ := hr
  have HC := Lib.hid ha
  clear ha ht
  have hbx := ((Below.refl w.heap.size w).alloc (Nat.le_refl _) (.cells #[.int .i64 c, .slice a ll.length cap] 26)).alloc (by simp) (.cells #[.int .i64 0, .slice none 0 0] 26)
  cases hv : isT c ll with
  | false =>
    have HE : Hid (projC c ll q = 0 ∧ projR c ll q = []) := Lib.hid (by unfold projC projR projOk; rw [hv]; exact ⟨rfl, rfl⟩)
    rw [hv] at HV
    clear hv
    go_enter Tryz.func15, Tryz.ntmps15
    go_wp2_with fail
    refine (HV.out _ hbx).mono ?_
    rintro e w1 ⟨rfl, hb1⟩
    obtain ⟨hc, hf⟩ := bcell hb1
    go_wp2_with fail
    refine bodyPost_ret (v := .agg #[.int .i64 0, .slice none 0 0]) (by simp [results, Tryz.results15, go_sem, hc]) rfl ⟨.slice none 0 0, by rw [HE.out.1], by rw [HE.out.2]; exact OwnSS.nil _ _ _, ?_⟩
    exact ((hbx.trans (hb1.mono hbx.size)).setCell (by simp) _).setCell (by simp) _
  | true =>
    obtain ⟨c1, c5, h40⟩ := isT_bd hv
    have HROW := Lib.hid (fun k hk => (isT_row hv (k := k) hk).1)
    rw [hv] at HV
    cases hq : isA c q with
    | false =>
      have HE : Hid (projC c ll q = 0 ∧ projR c ll q = []) := Lib.hid (by unfold projC projR projOk; rw [hv, hq]; exact ⟨rfl, rfl⟩)
      rw [hq] at HA
      clear hv hq
      go_enter Tryz.func15, Tryz.ntmps15
      go_wp2_with fail
      refine (HV.out _ hbx).mono ?_
      rintro e w1 ⟨rfl, hb1⟩
      obtain ⟨hc, hf⟩ := bcell hb1
      go_wp2_with fail
      refine (HA.out _).mono ?_
      rintro e w' ⟨rfl, rfl⟩
      go_wp2_with fail
      refine bodyPost_ret (v := .agg #[.int .i64 0, .slice none 0 0]) (by simp [results, Tryz.results15, go_sem, hc]) rfl ⟨.slice none 0 0, by rw [HE.out.1], by rw [HE.out.2]; exact OwnSS.nil _ _ _, ?_⟩
      exact ((hbx.trans (hb1.mono hbx.size)).setCell (by simp) _).setCell (by simp) _
    | true =>
      rw [hq] at HA
      by_cases h0 : q = 0
      · have HE : Hid (projC c ll q = 0 ∧ projR c ll q = []) := Lib.hid (by unfold projC projR projOk; rw [hv, hq, h0]; exact ⟨rfl, rfl⟩)
        have hz : (q == 0) = true := by simp [h0]
        clear hv hq h0
        go_enter Tryz.func15, Tryz.ntmps15
        go_wp2_with fail
        refine (HV.out _ hbx).mono ?_
        rintro e w1 ⟨rfl, hb1⟩
        obtain ⟨hc, hf⟩ := bcell hb1
        go_wp2_with fail
        refine (HA.out _).mono ?_
        rintro e w' ⟨rfl, rfl⟩
        go_wp2_with fail
        refine bodyPost_ret (v := .agg #[.int .i64 0, .slice none 0 0]) (by simp [results, Tryz.results15, go_sem, hc]) rfl ⟨.slice none 0 0, by rw [HE.out.1], by rw [HE.out.2]; exact OwnSS.nil _ _ _, ?_⟩
        exact ((hbx.trans (hb1.mono hbx.size)).setCell (by simp) _).setCell (by simp) _
      · have hz : (q == 0) = false := by rw [beq_eq_false_iff_ne]; exact h0
        have HE : Hid (projC c ll q = ((mems q).length : Int) ∧ projR c ll q = onceL (ll.map (rowOf q))) := Lib.hid (by unfold projC projR projOk; rw [hv, hq, hz]; exact ⟨rfl, rfl⟩)
        have HM := Lib.hid (isA_mems hq)
        have hpos := isA_pos hq h0
        have hml := mems_len q
        have HMS := Lib.hid (fun w' => membersS_any q w')
        have HRO : Hid (∀ r, rowOf q r = (mems q).map fun k => r.getD k.toNat 0) := Lib.hid (fun r => rfl)
        have HON := Lib.hid (fun v w' (hr : ReadC w' v (ll.map (rowOf q))) => l3Once_any ll.length (ll.map (rowOf q)) v w' (by simp) (by simp; omega) (fun i hi => by
          rw [List.length_map] at hi
          rw [show (ll.map (rowOf q)).getD i [] = rowOf q (ll.getD i []) by simp [List.getD_eq_getElem?_getD, List.getElem?_eq_getElem hi], rowOf_len]; omega) hr)
        obtain ⟨ms, hms⟩ : ∃ ms, ms = mems q := ⟨_, rfl⟩
        rw [← hms] at HE HM hpos hml HMS HRO
        clear hv hq h0 hms
        go_enter Tryz.func15, Tryz.ntmps15
        go_wp2_with fail
        refine (HV.out _ hbx).mono ?_
        rintro e w1 ⟨rfl, hb1⟩
        obtain ⟨hc, hf⟩ := bcell hb1
        go_wp2_with fail
        refine (HA.out _).mono ?_
        rintro e w' ⟨rfl, rfl⟩
        go_wp2_with fail
        refine (HMS.out _).mono ?_
        rintro e w2 ⟨vm, rfl, om, hb2⟩
        have HB2 := Lib.hid (hb1.trans (hb2.mono hb1.size))
        clear hc hf hb1
        go_wp2_with fail
        obtain ⟨am, capm, rfl, hmc⟩ := om.read
        obtain ⟨xm, rfl⟩ : ∃ xm, am = some xm := by
          obtain ⟨x, hx, -⟩ := hmc 0 hpos
          exact ⟨x, hx⟩
        have HMC : Hid (∀ k (h : k < ms.length), w2.cell? (xm.add k) = some (.int .i64 ms[k])) := Lib.hid (fun k h => by
          obtain ⟨x, hx, hcell⟩ := hmc k h
          simp at hx
          subst hx
          exact hcell)
        have hz2 := hbx.trans (HB2.out.mono hbx.size)
        have hx1 : w2.cell? ⟨w.heap.size, 1, none⟩ = some (.slice a ll.length cap) := (HB2.out.cell (p := ⟨w.heap.size, 1, none⟩) (by simp; omega)).trans ((World.cell?_alloc_old _ _ _ (by simp)).trans (zero2 w _ _ _).2)
        have hx2 : w2.cell? ⟨w.heap.size + 1, 0, none⟩ = some (.int .i64 0) ∧ w2.cell? ⟨w.heap.size + 1, 1, none⟩ = some (.slice none 0 0) := by
          have h := zero2 (w.alloc (.cells #[.int .i64 c, .slice a ll.length cap] 26)) 26 (.int .i64 0) (.slice none 0 0)
          simp only [World.size_alloc] at h
          exact ⟨(HB2.out.cell (p := ⟨w.heap.size + 1, 0, none⟩) (by simp)).trans h.1, (HB2.out.cell (p := ⟨w.heap.size + 1, 1, none⟩) (by simp)).trans h.2⟩
        have HX2 := Lib.hid hx2
        have HF2 : Hid (w2.frozen? ⟨w.heap.size + 1, 0, none⟩ = false ∧ w2.frozen? ⟨w.heap.size + 1, 1, none⟩ = false) := Lib.hid ⟨(HB2.out.frozen (p := ⟨w.heap.size + 1, 0, none⟩) (by simp)).trans (by go_simp), (HB2.out.frozen (p := ⟨w.heap.size + 1, 1, none⟩) (by simp)).trans (by go_simp)⟩
        have ho0 : OwnSS (w2.alloc (.cells #[] 37)) w2.heap.size (w2.heap.size + 1) (.slice (some ⟨w2.heap.size, 0, none⟩) 0 0) [] :=
          ⟨fun _ => undef, World.ownsRow_made w2 #[] 0 (Nat.le_refl _) (by unfold maxLen; omega) rfl, (fun g hg => by simp [Value.ownBlock] at hg; omega), (fun i h => absurd h (Nat.not_lt_zero _)), (fun i j _ h => absurd h (Nat.not_lt_zero _))⟩
        clear hx2 om hmc
        go_loopw [6, 7] (fun ov iv wr => ∃ (i : Nat) (L : List (List Int)), i ≤ ll.length ∧ iv = .int .i64 (i : Int) ∧ Hid (L = (ll.take i).map (rowOf q)) ∧ Hid (OwnSS wr w2.heap.size wr.heap.size ov L) ∧ Below w2.heap.size w2 wr) (fun _ iv _ => ll.length - (intOf iv).toNat)
        case atStart => exact ⟨0, [], by omega, rfl, Lib.hid rfl, Lib.hid (by simpa using ho0), (Below.refl _ _).alloc (Nat.le_refl _) _⟩
        case round =>
          clear ho0
          obtain ⟨i, L, hi, rfl, hL, HO, hb⟩ := hrel
          have hLl : L.length = i := by rw [hL.out, List.length_map, List.length_take]; omega
          obtain ⟨wi, rfl⟩ : ∃ wi : World, wi = wr := ⟨_, rfl⟩
          have e1 := (hb.cell (World.block_lt_of_cell? w2 _ hx1)).trans hx1
          by_cases hlt : i < ll.length
          · obtain ⟨x, u, rfl, hxw, hu⟩ := HC.out i hlt
            have hw := hz2.trans (hb.mono hz2.size)
            have e2 := (hw.cell (World.block_lt_of_cell? w _ hxw)).trans hxw
            have hrd := hu.kept hw
            have hcl := HROW.out i hlt
            have HLS := Lib.hid (map_take_succ ll (rowOf q) [] i hlt)
            obtain ⟨row, hrr⟩ : ∃ row, ll.getD i [] = row := ⟨_, rfl⟩
            rw [hrr] at hrd hcl HLS
            obtain ⟨ar, rc, rfl, hrow⟩ := hrd
            have HRW := Lib.hid hrow
            obtain ⟨xr, rfl⟩ : ∃ xr, ar = some xr := by
              obtain ⟨x0, h0, -⟩ := hrow 0 (by omega)
              exact ⟨x0, h0⟩
            have HCL := Lib.hid hcl
            obtain ⟨R, hR⟩ : ∃ R : Nat, row.length = R := ⟨_, rfl⟩
            rw [hR] at e2
            clear hcl
            have HRR := Lib.hid hR
            clear hxw hu hrow hrr hR
            have hLl2 : L.length ≤ 40 := by omega
            clear hLl
            go_wp2_with fail
            have hor0 : OwnI (wi.alloc (.cells #[] 3)) wi.heap.size (.slice (some ⟨wi.heap.size, 0, none⟩) 0 0) [] := OwnI.made (World.ownsRow_made wi #[] 0 (Nat.le_refl _) (by unfold maxLen; omega) rfl)
            go_loopw [8, 9] (fun rv kv wr => ∃ (k : Nat) (l : List Int), k ≤ ms.length ∧ kv = .int .i64 (k : Int) ∧ Hid (l = (ms.take k).map (fun t => row.getD t.toNat 0)) ∧ OwnI wr wi.heap.size rv l ∧ Below wi.heap.size wi wr) (fun _ kv _ => ms.length - (intOf kv).toNat)
            case atStart => exact ⟨0, [], by omega, rfl, Lib.hid rfl, hor0, (Below.refl _ _).alloc (Nat.le_refl _) _⟩
            case round =>
              clear hor0
              obtain ⟨k, l, hk, rfl, hl2, hor, hbI⟩ := hrel
              have hll : l.length ≤ 5 := by rw [hl2.out, List.length_map]; have := List.length_take_le k ms; omega
              by_cases hkt : k < ms.length
              · have e3 := (hb.cell (World.block_lt_of_cell? w2 _ (HMC.out k hkt))).trans (HMC.out k hkt)
                obtain ⟨m0, m1⟩ := HM.out ms[k] (List.getElem_mem hkt)
                have HST : Hid ((ms.take (k + 1)).map (fun t => row.getD t.toNat 0) = (ms.take k).map (fun t => row.getD t.toNat 0) ++ [row.getD (ms[k]).toNat 0]) := Lib.hid (by rw [List.take_succ_eq_append_getElem hkt, List.map_append]; rfl)
                obtain ⟨z, hz⟩ : ∃ z : Nat, ms[k] = (z : Int) := ⟨(ms[k]).toNat, by omega⟩
                rw [hz] at e3 m1 HST
                rw [show (z : Int).toNat = z from rfl] at HST
                have hzR : z < row.length := by have := HCL.out; omega
                obtain ⟨x0, hx0, e4⟩ := HRW.out z hzR
                simp at hx0
                subst hx0
                rw [get_getD row z hzR] at e4
                obtain ⟨y, hy⟩ : ∃ y, row.getD z 0 = y := ⟨_, rfl⟩
                rw [hy] at e4 HST
                rw [HRR.out] at hzR
                have f1 := (hbI.cell (World.block_lt_of_cell? wi _ e1)).trans e1
                have BA := Lib.hid ((hbI.drew).alloc (by simpa using hbI.size) (.cells #[.int .i64 y] 3))
                have z0 : (0 : Int) ≤ (i : Int) := by omega
                have z1 : (i : Int) < (ll.length : Int) := by omega
                have z2 : (0 : Int) ≤ (k : Int) := by omega
                have z3 : (k : Int) < (ms.length : Int) := by omega
                have z4 : (0 : Int) ≤ (z : Int) := by omega
                have z5 : (z : Int) < (R : Int) := by omega
                clear hz hy m0 m1
                go_wp2_with fail
                refine wp_region_noPanic ?_
                refine wp_region_held_drew (S := (fun w' => w'.cell? ⟨w.heap.size, 1, none⟩ = some (.slice (some x) ll.length cap) ∧ w'.cell? (x.add i) = some (.slice (some xr) R rc) ∧ w'.cell? (xm.add k) = some (.int .i64 (z : Int)) ∧ w'.cell? (xr.add z) = some (.int .i64 y) ∧ Below wi.heap.size wi w')) (by kernel_rfl) ?_ (fun hHeld => ?_)
                · ((try dsimp only); (first | exact mk4 (BA.out.grown hgrow (by simp; have := hbI.size; omega) (fun g hg => (hor.lt g hg).1)) e1 e2 e3 e4 | exact mk4 BA.out e1 e2 e3 e4 | exact mk4 hbI.drew e1 e2 e3 e4))
                refine wpAnyH_take (i := 0) (v := ?_) rfl (by kernel_rfl) (by kernel_rfl) (by kernel_rfl) (fun _ _ _ h => h) (Or.inl ⟨by rfl, ?_⟩) (by assumption) ?_
                rotate_left
                · (intro w hSw; (try dsimp only at hSw); go_simp; (try with_reducible rfl))
                (try simp only [Act.put, List.getElem_toArray, List.getElem_cons_zero, List.setIfInBounds_toArray, List.set_cons_zero, List.set_cons_succ])
                refine wpAnyH_take (i := 1) (v := ?_) rfl (by kernel_rfl) (by kernel_rfl) (by kernel_rfl) (fun _ _ _ h => h) (Or.inl ⟨by rfl, ?_⟩) (by assumption) ?_
                rotate_left
                · (intro w hSw; (try dsimp only at hSw); go_simp; (try with_reducible rfl))
                (try simp only [Act.put, List.getElem_toArray, List.getElem_cons_succ, List.getElem_cons_zero, List.setIfInBounds_toArray, List.set_cons_zero, List.set_cons_succ])
                refine wpAnyH_take (i := 2) (v := ?_) rfl (by kernel_rfl) (by kernel_rfl) (by kernel_rfl) (fun _ _ _ h => h) (Or.inl ⟨by rfl, ?_⟩) (by assumption) ?_
                rotate_left
                · (intro w hSw; (try dsimp only at hSw); go_simp; (try with_reducible rfl))
                (try simp only [Act.put, List.getElem_toArray, List.getElem_cons_succ, List.getElem_cons_zero, List.setIfInBounds_toArray, List.set_cons_zero, List.set_cons_succ])
                refine wpAnyH_take (i := 3) (v := ?_) rfl (by kernel_rfl) (by kernel_rfl) (by kernel_rfl) (fun _ _ _ h => h) (Or.inl ⟨by rfl, ?_⟩) (by assumption) ?_
                rotate_left
                · (intro w hSw; (try dsimp only at hSw); go_simp; (try with_reducible rfl))
                (try simp only [Act.put, List.getElem_toArray, List.getElem_cons_succ, List.getElem_cons_zero, List.setIfInBounds_toArray, List.set_cons_zero, List.set_cons_succ])
                refine wpAnyH_take (i := 4) (v := ?_) rfl (by kernel_rfl) (by kernel_rfl) (by kernel_rfl) (fun _ _ _ h => h) (Or.inl ⟨by rfl, ?_⟩) (by assumption) ?_
                rotate_left
                · (intro w hSw; (try dsimp only at hSw); go_simp; (try with_reducible rfl))
                (try simp only [Act.put, List.getElem_toArray, List.getElem_cons_succ, List.getElem_cons_zero, List.setIfInBounds_toArray, List.set_cons_zero, List.set_cons_succ])
                refine wpAnyH_take (i := 5) (v := ?_) rfl (by kernel_rfl) (by kernel_rfl) (by kernel_rfl) (fun _ _ _ h => h) (Or.inl ⟨by rfl, ?_⟩) (by assumption) ?_
                rotate_left
                · (intro w hSw; (try dsimp only at hSw); go_simp; (try with_reducible rfl))
                (try simp only [Act.put, List.getElem_toArray, List.getElem_cons_succ, List.getElem_cons_zero, List.setIfInBounds_toArray, List.set_cons_zero, List.set_cons_succ])
                refine wpAnyH_take (i := 6) (v := ?_) rfl (by kernel_rfl) (by kernel_rfl) (by kernel_rfl) (fun _ _ _ h => h) (Or.inl ⟨by rfl, ?_⟩) (by assumption) ?_
                rotate_left
                · (intro w hSw; (try dsimp only at hSw); go_simp; (try with_reducible rfl))
                (try simp only [Act.put, List.getElem_toArray, List.getElem_cons_succ, List.getElem_cons_zero, List.setIfInBounds_toArray, List.set_cons_zero, List.set_cons_succ])
                refine wpAnyH_take (i := 7) (v := ?_) rfl (by kernel_rfl) (by kernel_rfl) (by kernel_rfl) (fun _ _ _ h => h) (Or.inl ⟨by rfl, ?_⟩) (by assumption) ?_
                rotate_left
                · (intro w hSw; (try dsimp only at hSw); go_simp; (try with_reducible rfl))
                (try simp only [Act.put, List.getElem_toArray, List.getElem_cons_succ, List.getElem_cons_zero, List.setIfInBounds_toArray, List.set_cons_zero, List.set_cons_succ])
                refine wpAnyH_take (i := 8) (v := ?_) rfl (by kernel_rfl) (by kernel_rfl) (by kernel_rfl) (fun _ _ _ h => h) (Or.inl ⟨by rfl, ?_⟩) (by assumption) ?_
                rotate_left
                · (intro w hSw; (try dsimp only at hSw); go_simp; (try with_reducible rfl))
                (try simp only [Act.put, List.getElem_toArray, List.getElem_cons_succ, List.getElem_cons_zero, List.setIfInBounds_toArray, List.set_cons_zero, List.set_cons_succ])
                refine wpAnyH_take (i := 9) (v := ?_) rfl (by kernel_rfl) (by kernel_rfl) (by kernel_rfl) (fun _ _ _ h => h) (Or.inl ⟨by rfl, ?_⟩) (by assumption) ?_
                rotate_left
                · (intro w hSw; (try dsimp only at hSw); go_simp; (try with_reducible rfl))
                (try simp only [Act.put, List.getElem_toArray, List.getElem_cons_succ, List.getElem_cons_zero, List.setIfInBounds_toArray, List.set_cons_zero, List.set_cons_succ])
                refine wpAnyH_take (i := 10) (v := ?_) rfl (by kernel_rfl) (by kernel_rfl) (by kernel_rfl) (fun _ _ _ h => h) (Or.inl ⟨by rfl, ?_⟩) (by assumption) ?_
                rotate_left
                · (intro w hSw; (try dsimp only at hSw); go_simp; (try with_reducible rfl))
                (try simp only [Act.put, List.getElem_toArray, List.getElem_cons_succ, List.getElem_cons_zero, List.setIfInBounds_toArray, List.set_cons_zero, List.set_cons_succ])
                refine wpAnyH_take (i := 11) (v := ?_) rfl (by kernel_rfl) (by kernel_rfl) (by kernel_rfl) (fun _ _ _ h => h) (Or.inl ⟨by rfl, ?_⟩) (by assumption) ?_
                rotate_left
                · (intro w hSw; (try dsimp only at hSw); go_simp; (try with_reducible rfl))
                (try simp only [Act.put, List.getElem_toArray, List.getElem_cons_succ, List.getElem_cons_zero, List.setIfInBounds_toArray, List.set_cons_zero, List.set_cons_succ])
                refine wpAnyH_ready (rs := [12]) (by kernel_rfl) (by simp) (AllReadyH.cons rfl (fun K hK => ?_) AllReadyH.nil)
                go_simp
                refine hK.out _ _ ?_ (fun hHeld => ?_)
                · ((try dsimp only); (first | exact mk4 (BA.out.grown hgrow (by simp; have := hbI.size; omega) (fun g hg => (hor.lt g hg).1)) e1 e2 e3 e4 | exact mk4 BA.out e1 e2 e3 e4 | exact mk4 hbI.drew e1 e2 e3 e4))
                clear hK K
                (try simp only [Act.put, List.getElem_toArray, List.getElem_cons_succ, List.getElem_cons_zero, List.setIfInBounds_toArray, List.set_cons_zero, List.set_cons_succ])
                refine wpAnyH_ready (rs := [13]) (by kernel_rfl) (by simp) (AllReadyH.cons rfl (fun K hK => ?_) AllReadyH.nil)
                (first | ((refine step_append_lies _ (by rfl) _ _ _ (by rfl) wi.heap.size 3 j0 (.int .i64 0) 1 8 Tryz.underlying37 HJ.out.1 HJ.out.2.1 HJ.out.2.2.1 HJ.out.2.2.2 rfl (by decide) _ _ _ (by rfl) (World.ownsRow.alloc (w := wr.drew) hor _) ⟨wr.heap.size, 0, none⟩ 1 1 [.int .i64 y] (by rfl) (by rfl) (cell_one_new _ _ _) (one_i64 _) (by omega) (by unfold maxLen; omega) (by omega) (by simp; have := hbI.size; omega) (wr.heap.size + 1) (by simp) ?_; intro gg gcap w1 hown1 hgrow hat hltg)) | (go_simp; (refine step_append_lies _ (by rfl) _ _ _ (by rfl) wi.heap.size 3 j0 (.int .i64 0) 1 8 Tryz.underlying37 HJ.out.1 HJ.out.2.1 HJ.out.2.2.1 HJ.out.2.2.2 rfl (by decide) _ _ _ (by rfl) (World.ownsRow.alloc (w := wr.drew) hor _) ⟨wr.heap.size, 0, none⟩ 1 1 [.int .i64 y] (by rfl) (by rfl) (cell_one_new _ _ _) (one_i64 _) (by omega) (by unfold maxLen; omega) (by omega) (by simp; have := hbI.size; omega) (wr.heap.size + 1) (by simp) ?_; intro gg gcap w1 hown1 hgrow hat hltg)))
                (try (go_wp2_with fail))
                refine hK.out _ _ ?_ (fun hHeld => ?_)
                · ((try dsimp only); (first | exact mk4 (BA.out.grown hgrow (by simp; have := hbI.size; omega) (fun g hg => (hor.lt g hg).1)) e1 e2 e3 e4 | exact mk4 BA.out e1 e2 e3 e4 | exact mk4 hbI.drew e1 e2 e3 e4))
                clear hK K
                (try simp only [Act.put, List.getElem_toArray, List.getElem_cons_succ, List.getElem_cons_zero, List.setIfInBounds_toArray, List.set_cons_zero, List.set_cons_succ])
                refine wpAnyH_take (i := 14) (v := ?_) rfl (by kernel_rfl) (by kernel_rfl) (by kernel_rfl) (fun _ _ _ h => h) (Or.inl ⟨by rfl, ?_⟩) (by assumption) ?_
                rotate_left
                · (intro w hSw; (try dsimp only at hSw); go_simp; (try with_reducible rfl))
                (try simp only [Act.put, List.getElem_toArray, List.getElem_cons_succ, List.getElem_cons_zero, List.setIfInBounds_toArray, List.set_cons_zero, List.set_cons_succ])
                refine wpAnyH_done (by kernel_rfl) ?_ _
                refine NoPanic.normal ?_
                have hor' := OwnI.snoc hown1
                have HBI := Lib.hid hHeld.2.2.2.2
                clear hown1 hgrow hat hltg hHeld f1 e4
                go_wp2_with fail
                go_roundw
                case rel => exact ⟨k + 1, _, by omega, by go_num, Lib.hid (by rw [HST.out, hl2.out]), hor', HBI.out⟩
                case measure => simp [intOf]; omega
              · obtain rfl : k = ms.length := by omega
                have HLR : Hid (l = rowOf q row) := Lib.hid (by rw [hl2.out, HRO.out, List.take_length])
                obtain ⟨ar2, capr, rfl, -⟩ := hor.read
                have s1 := hb.size
                have s2 := hbI.size
                have hos := (HO.out.same (Below.keeps hbI (Nat.le_refl _))).same (w' := wr.alloc (.cells #[.slice ar2 l.length capr] 37)) (fun g _ hg => Below.heap_alloc _ _ _ (by omega))
                obtain ⟨V, o1, o2, o3, o4⟩ := hos
                have hou : OwnI (wr.alloc (.cells #[.slice ar2 l.length capr] 37)) w2.heap.size (.slice ar2 l.length capr) l := OwnI.base (World.ownsRow.alloc hor _) s1
                have O1 := Lib.hid o1
                have O2 := Lib.hid o2
                have O3 := Lib.hid o3
                have O4 := Lib.hid o4
                have HHU := Lib.hid (hor.lt)
                have e5 := (hbI.cell (World.block_lt_of_cell? wi _ e1)).trans e1
                clear o1 o2 o3 o4
                go_wp2_with (at_builtin; refine wpList_append_own _ rfl _ _ 24 rfl w2.heap.size 37 i0 (.slice none 0 0) 1 24 Tryz.underlying24 HI.out.1 HI.out.2.1 HI.out.2.2.1 HI.out.2.2.2 rfl (by decide) _ _ _ rfl O1.out ⟨wr.heap.size, 0, none⟩ 1 1 [.slice ar2 l.length capr] rfl rfl (cell_one_new _ _ _) (one_slice _ _ _) (by unfold maxLen; omega) (by omega) (by simp; omega) ?_; intro v' w3 hown' hgrow _)
                have s3 := hgrow.size
                simp only [World.size_alloc] at s3
                have hos3 := Lib.hid (OwnSS.snocV O1.out O2.out O3.out O4.out hou (fun g hg => ⟨(HHU.out g hg).1, by have := (HHU.out g hg).2; omega⟩) hown' hgrow (by omega) (fun g hg => (World.ownsRow.lt hown' g hg).2))
                have hb3 := ((hb.trans (hbI.mono s1)).alloc (by omega) (.cells #[.slice ar2 l.length capr] 37)).grown hgrow (by simp; omega) (fun g hg => (World.ownsRow.lt O1.out g hg).1)
                clear hown' hgrow hou hor hbI
                go_wp2_with fail
                go_roundw
                case rel => exact ⟨i + 1, L ++ [l], by omega, by go_num, Lib.hid (by rw [HLS.out, hL.out, HLR.out]), hos3, hb3⟩
                case measure => simp [intOf]; omega
          · obtain rfl : i = ll.length := by omega
            have HLL : Hid (L = ll.map (rowOf q)) := Lib.hid (by have := hL.out; rwa [List.take_length] at this)
            clear hLl
            obtain ⟨ao, capo, rfl, hcapo⟩ := HO.out.cap
            rw [← HLL.out] at HON HE
            have HCC := Lib.hid (HON.out _ wi ⟨HO.out.read, _, _, rfl, hcapo⟩)
            have HX3 := Lib.hid (And.intro ((hb.cell (World.block_lt_of_cell? w2 _ HX2.out.1)).trans HX2.out.1) ((hb.cell (World.block_lt_of_cell? w2 _ HX2.out.2)).trans HX2.out.2))
            clear hcapo
            go_wp2_with fail
            refine HCC.out.mono ?_
            rintro e w9 ⟨v9, rfl, o9, b9⟩
            have zc0 := (b9.cell (World.block_lt_of_cell? wi _ HX3.out.1)).trans HX3.out.1
            have zc1 := (b9.cell (World.block_lt_of_cell? wi _ HX3.out.2)).trans HX3.out.2
            have hl1 : w.heap.size + 1 < w2.heap.size := World.block_lt_of_cell? w2 _ HX2.out.1
            have zf0 := (b9.frozen (p := ⟨w.heap.size + 1, 0, none⟩) (by have := hb.size; simp; omega)).trans ((hb.frozen (p := ⟨w.heap.size + 1, 0, none⟩) hl1).trans HF2.out.1)
            have zf1 := (b9.frozen (p := ⟨w.heap.size + 1, 1, none⟩) (by have := hb.size; simp; omega)).trans ((hb.frozen (p := ⟨w.heap.size + 1, 1, none⟩) hl1).trans HF2.out.2)
            obtain ⟨a9, cap9, rfl, -⟩ := o9.read
            have s1 := hb.size
            have s2 := b9.size
            have s3 := HB2.out.size
            simp only [World.size_alloc] at s3
            go_wp2_with fail
            refine bodyPost_ret (v := .agg #[.int .i64 (ms.length : Int), .slice a9 (onceL L).length cap9]) (by simp [results, Tryz.results15, go_sem, zc0, zc1]) rfl ⟨_, by rw [HE.out.1], by rw [HE.out.2]; exact (o9.same (((Same.refl _ _ _).setCell (.inl (by simp; omega)) _).setCell (.inl (by simp; omega)) _)).base (by omega) (by simp), ?_⟩
            exact (((hz2.trans (hb.mono hz2.size)).trans (b9.mono (by omega))).setCell (by simp) _).setCell (by simp) _
theorem tot_le (l : List (List Int)) (m : Nat) (h : ∀ r ∈ l, r.length ≤ m) : tot l ≤ l.length * m := by
  induction l with
  | nil => simp [tot]
  | cons r t ih =>
    have h1 := h r (by simp)
    have h2 := ih (fun x hx => h x (by simp [hx]))
    unfold tot at *
    rw [List.map_cons, List.sum_cons, List.length_cons, Nat.succ_mul]
    omega
theorem proj_bd (c : Int) (ll : List (List Int)) (q : Int) : (projR c ll q).length ≤ 1048576 ∧ tot (projR c ll q) ≤ 1048576 := by
  obtain ⟨h1, h2⟩ := proj_tot (c := c) (ll := ll) (q := q)
  have h3 := tot_le _ 5 h2
  by_cases h : projOk c ll q = true
  · have : isT c ll = true := by unfold projOk at h; rw [Bool.and_eq_true] at h; exact h.1
    have := (isT_bd this).2.2
    exact ⟨by omega, by omega⟩
  · have : projR c ll q = [] := by unfold projR; rw [if_neg h]
    rw [this]; simp [tot]
end Go.Proofs.YtpkcffbfgocndaaGreatDoor
