/- The program's IsPartition, by contract. Conditions: as stated. -/
import Derived.Test.YtkaalgbcdcbgoaaPgA
namespace Go.Proofs.Ytkaalgbcdcbgoaa
open Go.RowKit

theorem isC_iff {rows : Int} {r : List Int} : isC rows r = true ↔ 2 ≤ r.length ∧ (∀ k, k < r.length → 0 ≤ r.getD k 0 ∧ r.getD k 0 ≤ rows - 1) ∧ (∀ k, k + 1 < r.length → r.getD k 0 < r.getD (k + 1) 0) := by
  unfold isC
  rw [Bool.and_eq_true, decide_eq_true_eq, List.all_eq_true]
  constructor
  · rintro ⟨h2, h⟩
    have h3 : ∀ k, k < r.length → (if k = 0 then 0 else r.getD (k - 1) 0 + 1) ≤ r.getD k 0 ∧ r.getD k 0 < rows := fun k hk => by
      have := h k (List.mem_range.2 hk); unfold inC at this; exact of_decide_eq_true this
    have h4 : ∀ k, k < r.length → 0 ≤ r.getD k 0 := by
      intro k
      induction k with
      | zero => intro hk; have := (h3 0 hk).1; simpa using this
      | succ n ih =>
        intro hk
        have h5 := ih (by omega)
        have h6 := (h3 (n + 1) hk).1
        rw [if_neg (by omega), Nat.add_sub_cancel] at h6
        omega
    refine ⟨h2, fun k hk => ⟨h4 k hk, by have := (h3 k hk).2; omega⟩, fun k hk => ?_⟩
    have h6 := (h3 (k + 1) hk).1
    rw [if_neg (by omega), Nat.add_sub_cancel] at h6
    omega
  · rintro ⟨h2, h3, h4⟩
    refine ⟨h2, fun k hk => ?_⟩
    rw [List.mem_range] at hk
    unfold inC
    refine decide_eq_true ⟨?_, by have := (h3 k hk).2; omega⟩
    cases k with
    | zero => rw [if_pos rfl]; exact (h3 0 hk).1
    | succ n =>
      rw [if_neg (by omega), Nat.add_sub_cancel]
      have := h4 n hk; omega
theorem cls_of {p : List (List Int)} {rows : Int} {i : Nat} (h : isC rows (p.getD i []) = true) (h2 : lastTo p i < (p.getD i []).getD 0 0) (h3 : ∀ x ∈ p.getD i [], x ∉ flatTo p i) : Cls p rows i := by
  obtain ⟨a, b, c⟩ := isC_iff.1 h
  exact ⟨a, h2, b, c, h3⟩
theorem cls_isC {p : List (List Int)} {rows : Int} {i : Nat} (h : Cls p rows i) : isC rows (p.getD i []) = true := by
  obtain ⟨a, h2, b, c, h3⟩ := h
  exact isC_iff.2 ⟨a, b, c⟩
theorem partP_bad {p : List (List Int)} {rows : Int} {i : Nat} (hi : i < p.length) (h : ¬ Cls p rows i) : partP p rows = false := by
  cases hp : partP p rows with
  | false => rfl
  | true => exact absurd ((partP_iff.1 hp).2 i hi) h

/-- The cells of block b say which places are among S. -/
def TakAt (w : World) (b : Nat) (S : List Int) : Prop := ∀ j, j < 40 → w.cell? ⟨b, j, none⟩ = some (.bool (decide ((j : Int) ∈ S))) ∧ w.frozen? ⟨b, j, none⟩ = false
theorem TakAt.store {w : World} {b : Nat} {S : List Int} (h : TakAt w b S) (y : Nat) (hy : y < 40) : TakAt (w.setCell ⟨b, y, none⟩ (.bool true)) b (S ++ [(y : Int)]) := by
  intro j hj
  rw [World.frozen?_setCell]
  refine ⟨?_, (h j hj).2⟩
  by_cases hjl : j = y
  · subst hjl
    rw [decide_eq_true (by simp)]
    exact World.cell?_setCell_same _ _ _ (h _ hj).1
  · rw [World.cell?_setCell_other _ _ _ _ (by intro e; simp only [Addr.mk.injEq] at e; omega), (h j hj).1]
    have : (j : Int) ≠ (y : Int) := by omega
    simp [this]
theorem TakAt.fresh (w : World) : TakAt (w.alloc (.cells (Array.replicate 40 (.bool false)) 67)) w.heap.size [] := by
  intro j hj
  refine ⟨?_, World.frozen?_alloc_new _ _ _ _⟩
  rw [World.cell?_alloc_mark w (Array.replicate 40 (.bool false)) 67 (0, 0) j, Array.getElem?_replicate, if_pos hj]
  rfl
theorem TakAt.below {w w' : World} {b C : Nat} {S : List Int} (h : TakAt w b S) (hb : Below C w w') (hC : b < C) : TakAt w' b S := fun j hj => ⟨(hb.cell hC).trans (h j hj).1, (hb.frozen hC).trans (h j hj).2⟩
theorem TakAt.eq {w : World} {b : Nat} {S T : List Int} (h : TakAt w b S) (e : S = T) : TakAt w b T := e ▸ h
theorem asc_not {r : List Int} (h : ∀ k, k + 1 < r.length → r.getD k 0 < r.getD (k + 1) 0) {k : Nat} (hk : k < r.length) : r.getD k 0 ∉ r.take k := by
  intro hm
  obtain ⟨t, ht, he⟩ := (mem_take (by omega)).1 hm
  have := asc_lt (i := t) h (k - t - 1) (by omega)
  rw [show t + (k - t - 1) + 1 = k by omega] at this
  omega
set_option maxHeartbeats 3200000 in
set_option maxRecDepth 100000 in
theorem implIsPartition_any (v : Value) (p : List (List Int)) (rows : Int) (w : World) (hr : ReadSS w v p) (hl : p.length ≤ 1048576) (ht : tot p ≤ 1048576) :
    Calls Try.prog 22 #[v, .int .i64 rows] w fun e w' => e = .returned (.bool (partP p rows)) ∧ Below w.heap.size w w' := by
  obtain ⟨a, cap, rfl, ha⟩ := hr
  have HA := Lib.hid ha
  clear ha
  by_cases h0 : rows < 0
  · have HX : Hid (partP p rows = false) := Lib.hid (by unfold partP; rw [decide_eq_false (p := 0 ≤ rows ∧ rows ≤ 40) (by omega)]; simp)
    go_enter Try.func22, Try.ntmps22
    go_wp2_with fail
    go_ret
    exact ⟨ret_b HX.out, Below.refl _ _⟩
  · by_cases h1 : 40 < rows
    · have HX : Hid (partP p rows = false) := Lib.hid (by unfold partP; rw [decide_eq_false (p := 0 ≤ rows ∧ rows ≤ 40) (by omega)]; simp)
      go_enter Try.func22, Try.ntmps22
      go_wp2_with fail
      go_ret
      exact ⟨ret_b HX.out, Below.refl _ _⟩
    · go_enter Try.func22, Try.ntmps22
      go_wp2_with fail
      go_loopw [6, 19] (fun fv iv wr => ∃ i : Nat, i ≤ p.length ∧ iv = .int .i64 (i : Int) ∧ fv = .int .i64 (lastTo p i) ∧ Hid (∀ j, j < i → Cls p rows j) ∧ TakAt wr w.heap.size (flatTo p i) ∧ Below w.heap.size w wr) (fun _ iv _ => p.length - (intOf iv).toNat)
      case atStart => exact ⟨0, by omega, rfl, rfl, Lib.hid (fun j hj => absurd hj (Nat.not_lt_zero _)), (TakAt.fresh w).eq (by unfold flatTo; rfl), (Below.refl w.heap.size w).alloc (Nat.le_refl _) _⟩
      case round =>
        obtain ⟨i, hi, rfl, rfl, hcl, htk, hb⟩ := hrel
        obtain ⟨w1, hw1⟩ : ∃ w', w' = wr := ⟨_, rfl⟩
        rw [← hw1] at htk hb ⊢
        clear hw1
        by_cases hlt : i < p.length
        · obtain ⟨xa, u, rfl, hx, hu⟩ := HA.out i hlt
          replace hx := (hb.cell (World.block_lt_of_cell? w _ hx)).trans hx
          have hlr := tot_get hlt
          have HBAD := Lib.hid (fun h => partP_bad (rows := rows) hlt h)
          have HCI := Lib.hid (fun h => cls_isC (p := p) (rows := rows) (i := i) h)
          have HCO := Lib.hid (fun h => cls_of (p := p) (rows := rows) (i := i) h)
          have HFT := Lib.hid (flatTo_succ p i hlt)
          have HLT : Hid (lastTo p (i + 1) = (p.getD i []).getD 0 0) := Lib.hid rfl
          have HC2 : Hid (Cls p rows i → lastTo p i < (p.getD i []).getD 0 0 ∧ ∀ x ∈ p.getD i [], x ∉ flatTo p i) := Lib.hid (fun h => ⟨h.2.1, h.2.2.2.2⟩)
          obtain ⟨r, hrr⟩ : ∃ r, r = p.getD i [] := ⟨_, rfl⟩
          rw [← hrr] at hu hlr HCI HCO HFT HLT HC2
          clear hrr
          obtain ⟨F, hF⟩ : ∃ F, F = flatTo p i := ⟨_, rfl⟩
          rw [← hF] at htk HFT HCO HC2
          clear hF
          obtain ⟨lf, hlf⟩ : ∃ lf, lf = lastTo p i := ⟨_, rfl⟩
          rw [← hlf] at HCO HC2 ⊢
          clear hlf
          have HIC := Lib.hid (isClass_any u r rows w1 (hu.kept hb) (by omega) (by omega))
          obtain ⟨ar, cr, rfl, har⟩ := hu
          have HR := Lib.hid har
          clear har
          have z0 : (0 : Int) ≤ (i : Int) := by omega
          have z1 : (i : Int) < (p.length : Int) := by omega
          cases hic : isC rows r with
          | false =>
            rw [hic] at HIC HCI
            have HX := Lib.hid (HBAD.out (fun h => by have := HCI.out h; cases this))
            clear hic
            go_wp2_with fail
            refine HIC.out.mono ?_
            rintro e w' ⟨rfl, rfl⟩
            go_wp2_with fail
            go_ret
            exact ⟨ret_b HX.out, hb⟩
          | true =>
            rw [hic] at HIC HCO
            have HII := Lib.hid (isC_iff.1 hic)
            clear hic
            have hr2 : 2 ≤ r.length := HII.out.1
            obtain ⟨xr, hxr, hx0⟩ := HR.out 0 (by omega)
            subst hxr
            rw [Addr.add_zero'] at hx0
            rw [get_getD r 0 (by omega)] at hx0
            replace hx0 := (hb.cell (World.block_lt_of_cell? w _ hx0)).trans hx0
            obtain ⟨f, hf⟩ : ∃ f, f = r.getD 0 0 := ⟨_, rfl⟩
            rw [← hf] at hx0 HLT HCO HC2
            clear hf
            have z4 : (0 : Int) < (r.length : Int) := by omega
            have z5 : 0 < r.length := by omega
            by_cases hfl : f ≤ lf
            · have HX := Lib.hid (HBAD.out (fun h => by have := (HC2.out h).1; omega))
              go_wp2_with fail
              refine HIC.out.mono ?_
              rintro e w' ⟨rfl, rfl⟩
              go_wp2_with fail
              go_ret
              exact ⟨ret_b HX.out, hb⟩
            · have htk0 : TakAt w1 w.heap.size (F ++ r.take 0) := htk.eq (by simp)
              have hzs := hb.size
              clear htk
              have HB1 := Lib.hid hb
              go_wp2_with fail
              refine HIC.out.mono ?_
              rintro e w' ⟨rfl, rfl⟩
              go_wp2_with fail
              go_loopw [39] (fun kv wr => ∃ k : Nat, k ≤ r.length ∧ kv = .int .i64 (k : Int) ∧ TakAt wr w.heap.size (F ++ r.take k) ∧ Hid (∀ x ∈ r.take k, x ∉ F) ∧ Below w.heap.size w wr) (fun kv _ => r.length - (intOf kv).toNat)
              case atStart => exact ⟨0, by omega, rfl, htk0, Lib.hid (by simp), hb⟩
              case round =>
                clear htk0 hb hx0 hx
                obtain ⟨k, hk, rfl, htk, hnew, hb⟩ := hrel
                by_cases hlk : k < r.length
                · obtain ⟨xr', hxr', hxk⟩ := HR.out k hlk
                  obtain rfl := Option.some.inj hxr'
                  clear hxr'
                  replace hxk := (hb.cell (World.block_lt_of_cell? w _ hxk)).trans hxk
                  have HTS : Hid (r.take (k + 1) = r.take k ++ [r.getD k 0]) := Lib.hid (by rw [List.take_succ_eq_append_getElem hlk, get_getD r k hlk])
                  have hbd := HII.out.2.1 k hlk
                  have HNA := Lib.hid (asc_not HII.out.2.2 hlk)
                  have HBAD2 : Hid (r.getD k 0 ∈ F → partP p rows = false) := Lib.hid (fun hm => HBAD.out (fun h => (HC2.out h).2 _ (by rw [← get_getD r k hlk]; exact List.getElem_mem _) hm))
                  rw [get_getD r k hlk] at hxk
                  obtain ⟨y, hy⟩ : ∃ y : Nat, r.getD k 0 = (y : Int) := ⟨(r.getD k 0).toNat, by omega⟩
                  rw [hy] at hxk HTS hbd HNA HBAD2
                  clear hy
                  have hy40 : y < 40 := by omega
                  obtain ⟨hty, hfy⟩ := htk y hy40
                  have z2 : (0 : Int) ≤ (k : Int) := by omega
                  have z3 : (k : Int) < (r.length : Int) := by omega
                  have z6 : (0 : Int) ≤ (y : Int) := by omega
                  have z7 : (y : Int) < 40 := by omega
                  obtain ⟨s, hs⟩ : ∃ s, s = r.take k := ⟨_, rfl⟩
                  rw [← hs] at htk hty HTS HNA hnew
                  clear hs
                  by_cases hyF : (y : Int) ∈ F
                  · have HX := Lib.hid (HBAD2.out hyF)
                    rw [decide_eq_true (List.mem_append_left _ hyF)] at hty
                    clear hyF
                    go_wp2_with fail
                    go_ret
                    exact ⟨ret_b HX.out, hb⟩
                  · rw [decide_eq_false (by rw [List.mem_append]; exact fun h => h.elim hyF HNA.out)] at hty
                    have HNN : Hid (∀ x ∈ s ++ [(y : Int)], x ∉ F) := Lib.hid (fun x hx => by
                      rcases List.mem_append.1 hx with h | h
                      · exact hnew.out x h
                      · simp at h; subst h; exact hyF)
                    clear hyF
                    have htk2 := (htk.store y hy40).eq (T := F ++ r.take (k + 1)) (by rw [HTS.out, List.append_assoc])
                    have hb2 : Below w.heap.size w (wr.setCell ⟨w.heap.size, y, none⟩ (.bool true)) := hb.setCell (p := ⟨w.heap.size, y, none⟩) (Nat.le_refl _) _
                    have HN2 : Hid (∀ x ∈ r.take (k + 1), x ∉ F) := Lib.hid (by rw [HTS.out]; exact HNN.out)
                    go_wp2_with fail
                    go_round
                    case rel => exact ⟨k + 1, by omega, by go_num, htk2, HN2, hb2⟩
                    case measure => simp [intOf]; omega
                · obtain rfl : k = r.length := by omega
                  have htk2 : TakAt wr w.heap.size (flatTo p (i + 1)) := htk.eq (by rw [HFT.out, List.take_length])
                  have HCL : Hid (∀ j, j < i + 1 → Cls p rows j) := Lib.hid (fun j hj => by
                    rcases Nat.lt_or_ge j i with h | h
                    · exact hcl.out j h
                    · obtain rfl : j = i := by omega
                      have hn := hnew.out
                      rw [List.take_length] at hn
                      exact HCO.out trivial (by omega) hn)
                  go_wp2_with fail
                  go_round
                  case rel => exact ⟨i + 1, by omega, by go_num, by rw [HLT.out], HCL, htk2, hb⟩
                  case measure => simp [intOf]; omega
        · obtain rfl : i = p.length := by omega
          have HX : Hid (partP p rows = true) := Lib.hid (partP_iff.2 ⟨⟨by omega, by omega⟩, hcl.out⟩)
          go_wp2_with fail
          go_ret
          exact ⟨ret_b HX.out, hb⟩
end Go.Proofs.Ytkaalgbcdcbgoaa
