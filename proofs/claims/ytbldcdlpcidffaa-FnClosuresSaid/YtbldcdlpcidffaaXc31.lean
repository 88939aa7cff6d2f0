/- Texts of this claim, merged: ImE, PcF, ClV, ExT. Conditions: as stated. -/
import Derived.Test.YtbldcdlpcidffaaXc16
import Derived.Test.YtbldcdlpcidffaaPcCm
import Derived.Test.YtbldcdlpcidffaaXc19
import Derived.Test.YtbldcdlpcidffaaXc12
import Derived.Test.YtbldcdlpcidffaaXc3
import Derived.Test.YtbldcdlpcidffaaXc13
import Derived.Laws.OwnMore
namespace Go.Proofs.Ytbldcdlpcidffaa
open Go.RowKit

end Go.Proofs.Ytbldcdlpcidffaa
namespace Go.Proofs.Ytbldcdlpcidffaa
open Go.RowKit

section
set_option maxRecDepth 20000
set_option maxHeartbeats 6400000
theorem ixZ_closed (l : List (Int × Int)) (x : Nat) : clB l x = decide (ixZ (fun d : Int × Int => subN d.1.toNat x && !bitB x d.2.toNat) l < 0) := by
  rw [ixZ_neg]
  unfold clB
  congr 1
  funext d
  cases subN d.1.toNat x <;> cases bitB x d.2.toNat <;> rfl
theorem implClosedSets_any (v : Value) (n : Int) (l : List (Int × Int)) (_w0 : (Lit.int .i64 n).wf = true) (bd : ∀ d ∈ l, (Lit.int .i64 d.1).wf = true ∧ (Lit.int .i64 d.2).wf = true) (w : World) (hr : ReadD w v l) (hl : l.length ≤ 1048576) :
    Calls Try.prog 15 #[.int .i64 n, v] w (RetI (clsL n l) w) := by
  obtain ⟨i0, hi, hz0, hz1, hz2⟩ := info_parts info3i
  have HI : Hid (_ ∧ _ ∧ _ ∧ _) := Lib.hid ⟨hi, hz0, hz1, hz2⟩
  clear hi hz0 hz1 hz2
  have HAD := Lib.hid (implAreDeps_any v n l _w0 bd w hr hl)
  clear bd
  cases ha : arD n l with
  | false =>
    rw [ha] at HAD
    have HE : Hid (clsL n l = []) := Lib.hid (by unfold clsL; rw [ha]; rfl)
    obtain ⟨a, cap, rfl, -⟩ := hr
    clear ha
    go_enter Try.func15, Try.ntmps15
    go_wp2_with fail
    refine HAD.out.mono ?_
    rintro e w2 ⟨rfl, b2⟩
    go_wp2_with fail
    go_ret
    exact ⟨_, rfl, by rw [HE.out]; exact (World.ownsRow_nil _ _ _ _ : OwnI w2 w.heap.size (.slice .none 0 0) []), b2⟩
  | true =>
    rw [ha] at HAD
    obtain ⟨C, rfl, hC1, hC5, -, hd⟩ := arD_n ha
    have HE : Hid (clsL (C : Int) l = brdTo (clB l) (2 ^ C)) := Lib.hid (by unfold clsL; rw [ha]; rfl)
    have HC := Lib.hid (fun (x : Nat) (hx : x < 32) w' (hb : Below w.heap.size w w') => firstEnl_any C hC5 v l hd x hx w' (hr.kept hb) hl)
    have HCL := Lib.hid (fun (x : Nat) => ixZ_closed l x)
    have HBS : Hid (∀ x : Nat, brdTo (clB l) (x + 1) = if clB l x = true then brdTo (clB l) x ++ [(x : Int)] else brdTo (clB l) x) := Lib.hid (fun _ => rfl)
    have HBL := Lib.hid (brd_len (clB l))
    obtain ⟨M, hM, hM31, hMZ⟩ : ∃ M : Nat, M + 1 = 2 ^ C ∧ M ≤ 31 ∧ ((2 : Int) ^ C - 1) = (M : Int) := by
      have h32 := two5 hC5
      have hp : 0 < 2 ^ C := Nat.pow_pos (by omega)
      have hz : ((2 ^ C : Nat) : Int) = (2 : Int) ^ C := by rw [Int.natCast_pow]; rfl
      exact ⟨2 ^ C - 1, by omega, by omega, by omega⟩
    have HAL : Hid (∀ w', Calls Try.prog 38 #[.int .i64 (C : Int)] w' fun e w'' => e = .returned (.int .i64 (M : Int)) ∧ w' = w'') := Lib.hid (fun w' => by have h := first_any (C : Int) w' (by omega) (by omega); rw [show ((C : Int)).toNat = C from rfl, hMZ] at h; exact h)
    rw [← hM] at HE
    obtain ⟨a, cap, rfl, -⟩ := hr
    clear ha hd hM hMZ
    go_enter Try.func15, Try.ntmps15
    go_wp2_with fail
    refine HAD.out.mono ?_
    rintro e w2 ⟨rfl, b2⟩
    have HB2 := Lib.hid b2
    clear b2
    go_wp2_with fail
    go_loopw [5, 6] (fun ov xv wr => ∃ x : Nat, x ≤ M + 1 ∧ xv = .int .i64 (x : Int) ∧ Hid (OwnI wr w.heap.size ov (brdTo (clB l) x)) ∧ Hid (Below w.heap.size w wr)) (fun _ xv _ => M + 1 - (intOf xv).toNat)
    case atStart => exact ⟨0, by omega, rfl, Lib.hid (World.ownsRow_nil _ _ _ _ : OwnI w2 w.heap.size (.slice .none 0 0) []), HB2⟩
    case round =>
      clear HB2
      obtain ⟨x, hx, rfl, HO, HB⟩ := hrel
      obtain ⟨w3, hw⟩ : ∃ w', w' = wr := ⟨_, rfl⟩
      rw [← hw] at HO HB ⊢
      clear hw
      have hql := HBL.out x
      have hbs := HBS.out x
      obtain ⟨q, hq⟩ : ∃ q, q = brdTo (clB l) x := ⟨_, rfl⟩
      rw [← hq] at HO hql hbs
      have z0 : (0 : Int) ≤ (x : Int) := by omega
      by_cases hlt : x ≤ M
      · have z1 : (x : Int) ≤ (M : Int) := by omega
        have hcl := HCL.out x
        have HCX := Lib.hid (HC.out x (by omega))
        obtain ⟨y, hy⟩ : ∃ y, y = ixZ (fun d : Int × Int => subN d.1.toNat x && !bitB x d.2.toNat) l := ⟨_, rfl⟩
        rw [← hy] at hcl HCX
        have HBSX := Lib.hid hbs
        clear hq hy hbs
        go_wp2_with fail
        refine (HAL.out _).mono ?_
        rintro e w' ⟨rfl, rfl⟩
        go_wp2_with fail
        refine (HCX.out _ HB.out).mono ?_
        rintro e w5 ⟨rfl, b5⟩
        have HO5 := Lib.hid (HO.out.kept b5 (fun k hk => (OwnI.lt HO.out k hk).2))
        have HB5 := Lib.hid (HB.out.trans (b5.mono HB.out.size))
        clear b5
        cases hc : clB l x with
        | true =>
          rw [hc] at hcl HBSX
          have hneg : y < 0 := by simpa using hcl.symm
          have ho6 := HO5.out
          clear hc hcl
          go_wp2_with (at_builtin; refine wpList_append_own _ rfl _ _ 43 rfl w.heap.size 3 i0 (.int .i64 0) 1 8 Try.underlying43 HI.out.1 HI.out.2.1 HI.out.2.2.1 HI.out.2.2.2 rfl (by decide) _ _ _ rfl (World.ownsRow.alloc ho6 _) ⟨w5.heap.size, 0, none⟩ 1 1 [.int .i64 (x : Int)] rfl rfl (cell_one_new _ _ _) (one_i64 _) (by unfold maxLen; omega) (by omega) (by have := HB5.out.size; simp; omega) ?_; intro v7 w7 hown7 hgrow7 _; have HO7 := Lib.hid (OwnI.snoc hown7); have HB7 := Lib.hid ((HB5.out.alloc HB5.out.size (.cells #[.int .i64 (x : Int)] 3)).grown hgrow7 (by rw [World.size_alloc]; have := HB5.out.size; omega) (fun k hk => (OwnI.lt HO5.out k hk).1)); clear hown7 hgrow7 ho6)
          go_roundw
          case rel => exact ⟨x + 1, by omega, by go_num, by rw [HBSX.out, if_pos (by first | trivial | rfl)]; exact HO7, HB7⟩
          case measure => simp [intOf]; omega
        | false =>
          rw [hc] at hcl HBSX
          have hneg : ¬ y < 0 := fun h => by rw [decide_eq_true h] at hcl; cases hcl
          clear hc hcl
          go_wp2_with fail
          go_roundw
          case rel => exact ⟨x + 1, by omega, by go_num, by rw [HBSX.out, if_neg (by decide)]; exact HO5, HB5⟩
          case measure => simp [intOf]; omega
      · obtain rfl : x = M + 1 := by omega
        rw [hq] at HO
        have zM : ¬ (((M + 1 : Nat) : Int) ≤ (M : Int)) := by omega
        clear hq hql hbs
        go_wp2_with fail
        refine (HAL.out _).mono ?_
        rintro e w' ⟨rfl, rfl⟩
        go_wp2_with fail
        go_ret
        exact ⟨_, rfl, by rw [HE.out]; exact HO.out, HB.out⟩
end
end Go.Proofs.Ytbldcdlpcidffaa
namespace Go.Proofs.Ytbldcdlpcidffaa
open Go.RowKit

/-- A row: 0 in the columns of X, v in the others. -/
def rowA (X : Nat) (v : Int) : Nat → List Int
  | 0 => []
  | k + 1 => rowA X v k ++ [if bitB X k = true then 0 else v]
theorem rowA_len (X : Nat) (v : Int) : ∀ C, (rowA X v C).length = C
  | 0 => rfl
  | k + 1 => by unfold rowA; rw [List.length_append, rowA_len X v k]; rfl
theorem rowA_get (X : Nat) (v : Int) : ∀ C j, j < C → (rowA X v C).getD j 0 = if bitB X j = true then 0 else v
  | 0, _, h => absurd h (by omega)
  | k + 1, j, h => by
    unfold rowA
    rw [List.getD_eq_getElem?_getD]
    by_cases e : j < k
    · rw [List.getElem?_append_left (by rw [rowA_len]; exact e), ← List.getD_eq_getElem?_getD]
      exact rowA_get X v k j e
    · obtain rfl : j = k := by omega
      rw [List.getElem?_append_right (by rw [rowA_len]; omega), rowA_len, Nat.sub_self]
      rfl
theorem rowA_mem {X : Nat} {v : Int} : ∀ {C : Nat} {x : Int}, x ∈ rowA X v C → x = 0 ∨ x = v
  | 0, _, h => by cases h
  | k + 1, x, h => by
    unfold rowA at h
    rw [List.mem_append] at h
    rcases h with h | h
    · exact rowA_mem h
    · rw [List.mem_singleton] at h
      rw [h]
      split
      · exact .inl rfl
      · exact .inr rfl
/-- The rows of a list of sets and values. -/
def rowsA (C : Nat) (ps : List (Nat × Int)) : List (List Int) := ps.map fun p => rowA p.1 p.2 C
theorem rowsA_get (C : Nat) (ps : List (Nat × Int)) {i : Nat} (h : i < ps.length) : (rowsA C ps).getD i [] = rowA (ps.getD i (0, 0)).1 (ps.getD i (0, 0)).2 C := by
  unfold rowsA
  rw [List.getD_eq_getElem?_getD, List.getElem?_map, List.getD_eq_getElem?_getD, List.getElem?_eq_getElem h]
  rfl
/-- The values ascend, from 0 with all columns on. -/
structure AscZ (C : Nat) (ps : List (Nat × Int)) : Prop where
  pos : 0 < ps.length
  first : ps.getD 0 (0, 0) = (2 ^ C - 1, 0)
  asc : ∀ a b, a < b → b < ps.length → (ps.getD a (0, 0)).2 < (ps.getD b (0, 0)).2
theorem full_bit : ∀ (C : Fin 6) (j : Fin 5), bitB (2 ^ C.val - 1) j.val = decide (j.val < C.val) := by decide +kernel
theorem low12 : ∀ (C : Fin 6) (x : Fin 32) (j : Fin 5), x.val < 2 ^ C.val → C.val ≤ j.val → bitB x.val j.val = false := by decide +kernel
theorem AscZ.up {C : Nat} {ps : List (Nat × Int)} (h : AscZ C ps) {b : Nat} (hb0 : 0 < b) (hb : b < ps.length) : 0 < (ps.getD b (0, 0)).2 := by
  have := h.asc 0 b hb0 hb
  rw [h.first] at this
  exact this
/-- Two rows agree in what their sets have in common. -/
theorem rows_agree {C : Nat} (hC : C ≤ 5) {ps : List (Nat × Int)} (h : AscZ C ps) {a b : Nat} (hab : a < b) (hb : b < ps.length) {S : Nat} (hS : S < 2 ^ C) :
    agB C (rowsA C ps) 0 (S : Int) a b = true ↔ ∀ j, j < C → bitB S j = true → bitB (ps.getD a (0, 0)).1 j = true ∧ bitB (ps.getD b (0, 0)).1 j = true := by
  rw [agB_iff C (rowsA C ps) 0 S a b hC hS]
  have hv := h.asc a b hab hb
  have hv0 := h.up (b := b) (by omega) hb
  have key : ∀ j, j < C → (eqC 0 (((rowsA C ps).getD a []).getD j 0) (((rowsA C ps).getD b []).getD j 0) = true ↔ bitB (ps.getD a (0, 0)).1 j = true ∧ bitB (ps.getD b (0, 0)).1 j = true) := by
    intro j hj
    rw [rowsA_get C ps (by omega), rowsA_get C ps hb, rowA_get _ _ C j hj, rowA_get _ _ C j hj]
    unfold eqC
    rw [decide_eq_true_iff]
    by_cases ha : a = 0
    · subst ha
      rw [h.first]
      simp only
      have hf := full_bit ⟨C, by omega⟩ ⟨j, by omega⟩
      simp only at hf
      rw [hf, decide_eq_true hj]
      obtain ⟨vb, hvb⟩ : ∃ vb, vb = (ps.getD b (0, 0)).2 := ⟨_, rfl⟩
      obtain ⟨Xb, hXb⟩ : ∃ Xb, Xb = (ps.getD b (0, 0)).1 := ⟨_, rfl⟩
      rw [← hvb] at hv0 ⊢
      rw [← hXb]
      cases bitB Xb j <;> simp <;> omega
    · have hva := h.up (b := a) (by omega) (by omega)
      obtain ⟨vb, hvb⟩ : ∃ vb, vb = (ps.getD b (0, 0)).2 := ⟨_, rfl⟩
      obtain ⟨Xb, hXb⟩ : ∃ Xb, Xb = (ps.getD b (0, 0)).1 := ⟨_, rfl⟩
      obtain ⟨u, hu⟩ : ∃ u, u = (ps.getD a (0, 0)).2 := ⟨_, rfl⟩
      obtain ⟨Xa, hXa⟩ : ∃ Xa, Xa = (ps.getD a (0, 0)).1 := ⟨_, rfl⟩
      rw [← hvb] at hv0 hv ⊢
      rw [← hu] at hv hva ⊢
      rw [← hXb, ← hXa]
      cases bitB Xa j <;> cases bitB Xb j <;> simp <;> omega
  constructor
  · intro h j hj hb; exact (key j hj).1 (h j hj hb)
  · intro h j hj hb; exact (key j hj).2 (h j hj hb)
/-- What holds in such a table hangs on the sets alone. -/
theorem rows_hold {C : Nat} (hC : C ≤ 5) {ps : List (Nat × Int)} (h : AscZ C ps) (hX : ∀ p ∈ ps, p.1 < 2 ^ C) {L R : Nat} (hL : L < 2 ^ C) (hR : R < C) :
    HoldsAll C (rowsA C ps) 0 L R ↔ ∀ p ∈ ps, subN L p.1 = true → bitB p.1 R = true := by
  have h32 := two5 hC
  have hR2 : 2 ^ R < 2 ^ C := Nat.pow_lt_pow_right (by omega) hR
  have hlen : (rowsA C ps).length = ps.length := List.length_map _
  have hpb := fun (j : Nat) (hj : j < 5) => pow_bit ⟨R, by omega⟩ ⟨j, hj⟩
  simp only at hpb
  have hmem : ∀ {i : Nat}, i < ps.length → ps.getD i (0, 0) ∈ ps := fun {i} hi => by
    rw [List.getD_eq_getElem?_getD, List.getElem?_eq_getElem hi]; exact List.getElem_mem hi
  have hsub : ∀ {X : Nat}, X < 2 ^ C → (subN L X = true ↔ ∀ j, j < C → bitB L j = true → bitB X j = true) := fun {X} hX => by
    rw [subN_bit ⟨L, by omega⟩ ⟨X, by omega⟩]
    constructor
    · intro h j hj hb; exact h ⟨j, by omega⟩ hb
    · intro h j hb
      by_cases hj : j.val < C
      · exact h j hj hb
      · have := low12 ⟨C, by omega⟩ ⟨L, by omega⟩ j hL (Nat.not_lt.1 hj)
        rw [this] at hb
        cases hb
  constructor
  · intro hh p hp hs
    obtain ⟨b, hb, rfl⟩ := List.getElem_of_mem hp
    have hg : ps.getD b (0, 0) = ps[b] := by rw [List.getD_eq_getElem?_getD, List.getElem?_eq_getElem hb]; rfl
    rw [← hg] at hs hp ⊢
    by_cases hb0 : b = 0
    · subst hb0
      rw [h.first]
      have hf := full_bit ⟨C, by omega⟩ ⟨R, by omega⟩
      simp only at hf
      rw [hf, decide_eq_true hR]
    · have h1 := hh 0 b (by omega) (by rw [hlen]; exact hb) ((rows_agree hC h (by omega) hb hL).2 fun j hj hbj => ⟨by
        rw [h.first]
        have hf := full_bit ⟨C, by omega⟩ ⟨j, by omega⟩
        simp only at hf
        rw [hf, decide_eq_true hj], (hsub (hX _ hp)).1 hs j hj hbj⟩)
      exact ((rows_agree hC h (by omega) hb hR2).1 h1 R hR (by rw [hpb R (by omega)]; exact decide_eq_true rfl)).2
  · intro hh a b hab hb hag
    rw [hlen] at hb
    have h1 := (rows_agree hC h hab hb hL).1 hag
    refine (rows_agree hC h hab hb hR2).2 fun j hj hbj => ?_
    rw [hpb j (by omega)] at hbj
    have e : j = R := of_decide_eq_true hbj
    subst e
    exact ⟨hh _ (hmem (by omega)) ((hsub (hX _ (hmem (by omega)))).2 fun j hj hbj => (h1 j hj hbj).1), hh _ (hmem hb) ((hsub (hX _ (hmem hb))).2 fun j hj hbj => (h1 j hj hbj).2)⟩
/-- The sets and values of an example table: all columns, and each closed set but that one. -/
def armP (C : Nat) (c : List Int) : Nat → List (Nat × Int)
  | 0 => [(2 ^ C - 1, 0)]
  | i + 1 => if c.getD i 0 = (2 : Int) ^ C - 1 then armP C c i else armP C c i ++ [((c.getD i 0).toNat, (i : Int) + 1)]
theorem armP_mem {C : Nat} {c : List Int} {p : Nat × Int} : ∀ i, (p ∈ armP C c i ↔ p = (2 ^ C - 1, 0) ∨ ∃ j, j < i ∧ c.getD j 0 ≠ (2 : Int) ^ C - 1 ∧ p = ((c.getD j 0).toNat, (j : Int) + 1))
  | 0 => by
    unfold armP
    rw [List.mem_singleton]
    constructor
    · exact .inl
    · rintro (h | ⟨j, h, -⟩)
      · exact h
      · exact absurd h (by omega)
  | i + 1 => by
    have ih := armP_mem (C := C) (c := c) (p := p) i
    unfold armP
    split
    · rename_i he
      rw [ih]
      constructor
      · rintro (h | ⟨j, h1, h2⟩)
        · exact .inl h
        · exact .inr ⟨j, by omega, h2⟩
      · rintro (h | ⟨j, h1, h2, h3⟩)
        · exact .inl h
        · by_cases e : j = i
          · subst e; exact absurd he h2
          · exact .inr ⟨j, by omega, h2, h3⟩
    · rename_i he
      rw [List.mem_append, List.mem_singleton, ih]
      constructor
      · rintro ((h | ⟨j, h1, h2⟩) | h)
        · exact .inl h
        · exact .inr ⟨j, by omega, h2⟩
        · exact .inr ⟨i, by omega, he, h⟩
      · rintro (h | ⟨j, h1, h2, h3⟩)
        · exact .inl (.inl h)
        · by_cases e : j = i
          · subst e; exact .inr h3
          · exact .inl (.inr ⟨j, by omega, h2, h3⟩)
theorem armP_len (C : Nat) (c : List Int) : ∀ i, (armP C c i).length ≤ i + 1
  | 0 => Nat.le_refl _
  | i + 1 => by
    have := armP_len C c i
    unfold armP
    split
    · omega
    · rw [List.length_append]; simp; omega
theorem armP_asc (C : Nat) (c : List Int) : ∀ i, AscZ C (armP C c i) ∧ ∀ p ∈ armP C c i, p.2 ≤ (i : Int)
  | 0 => by
    refine ⟨⟨Nat.zero_lt_one, rfl, fun a b h hb => ?_⟩, fun p hp => ?_⟩
    · unfold armP at hb
      simp at hb
      omega
    · unfold armP at hp
      rw [List.mem_singleton] at hp
      rw [hp]
      exact Int.le_refl _
  | i + 1 => by
    obtain ⟨h1, h2⟩ := armP_asc C c i
    unfold armP
    split
    · exact ⟨h1, fun p hp => by have := h2 p hp; omega⟩
    · have hg : ∀ a, a < (armP C c i).length → (armP C c i ++ [((c.getD i 0).toNat, (i : Int) + 1)]).getD a (0, 0) = (armP C c i).getD a (0, 0) := fun a ha => by
        rw [List.getD_eq_getElem?_getD, List.getElem?_append_left ha, ← List.getD_eq_getElem?_getD]
      refine ⟨⟨by rw [List.length_append]; have := h1.pos; omega, by rw [hg 0 h1.pos]; exact h1.first, fun a b hab hb => ?_⟩, fun p hp => ?_⟩
      · rw [List.length_append] at hb
        simp only [List.length_singleton] at hb
        rw [hg a (by omega)]
        by_cases e : b < (armP C c i).length
        · rw [hg b e]; exact h1.asc a b hab e
        · have hm : (armP C c i).getD a (0, 0) ∈ armP C c i := by
            rw [List.getD_eq_getElem?_getD, List.getElem?_eq_getElem (show a < (armP C c i).length by omega)]; exact List.getElem_mem _
          have := h2 _ hm
          have hb' : (armP C c i ++ [((c.getD i 0).toNat, (i : Int) + 1)]).getD b (0, 0) = ((c.getD i 0).toNat, (i : Int) + 1) := by
            rw [List.getD_eq_getElem?_getD, List.getElem?_append_right (by omega), show b - (armP C c i).length = 0 by omega]; rfl
          rw [hb']
          show _ < (i : Int) + 1
          omega
      · rw [List.mem_append, List.mem_singleton] at hp
        rcases hp with hp | hp
        · have := h2 p hp; omega
        · rw [hp]; exact Int.le_refl _
/-- The rows of the example table. -/
def armL (n : Int) (l : List (Int × Int)) : List (List Int) := if arD n l = true then rowsA n.toNat (armP n.toNat (clsL n l) (clsL n l).length) else []
theorem closed_full {C : Nat} {l : List (Int × Int)} (hC : C ≤ 5) (hl : DepsN C l) : ClosedN l (2 ^ C - 1) := by
  intro d hd _
  obtain ⟨L, R, e, hL, hR⟩ := hl d hd
  have hf := full_bit ⟨C, by omega⟩ ⟨R, by omega⟩
  simp only at hf
  rw [e]
  show bitB (2 ^ C - 1) R = true
  rw [hf, decide_eq_true hR]
theorem cls_len (n : Int) (l : List (Int × Int)) : (clsL n l).length ≤ 32 := by
  unfold clsL
  split
  · rename_i h
    obtain ⟨C, rfl, h1, h5, -, -⟩ := arD_n h
    have := brdTo_len (clB l) (2 ^ C)
    have := two5 h5
    show (brdTo (clB l) (2 ^ C)).length ≤ 32
    omega
  · exact Nat.zero_le _
/-- An example table is a table; what holds in it is what follows. -/
theorem arm_facts {C : Nat} {l : List (Int × Int)} (ha : arD (C : Int) l = true) :
    isT (C : Int) (armL (C : Int) l) = true ∧ (∀ x ∈ l, holdsD (C : Int) (armL (C : Int) l) 0 x.1 x.2 = true) ∧ ∀ L R : Nat, L < 2 ^ C → R < C → holdsD (C : Int) (armL (C : Int) l) 0 (L : Int) (R : Int) = bitB (clo l L) R := by
  obtain ⟨C', e, h1, h5, -, hd⟩ := arD_n ha
  obtain rfl : C = C' := by omega
  have h32 := two5 h5
  have hE : armL (C : Int) l = rowsA C (armP C (clsL (C : Int) l) (clsL (C : Int) l).length) := by unfold armL; rw [if_pos ha]; rfl
  have hlen := cls_len (C : Int) l
  obtain ⟨k1, k2⟩ := armP_asc C (clsL (C : Int) l) (clsL (C : Int) l).length
  have k3 := armP_len C (clsL (C : Int) l) (clsL (C : Int) l).length
  have kp : ∀ p ∈ armP C (clsL (C : Int) l) (clsL (C : Int) l).length, p.1 < 2 ^ C ∧ ClosedN l p.1 ∧ 0 ≤ p.2 := by
    intro p hp
    rcases (armP_mem _).1 hp with rfl | ⟨j, hj, hne, rfl⟩
    · have : 0 < 2 ^ C := Nat.pow_pos (by omega)
      exact ⟨by show 2 ^ C - 1 < 2 ^ C; omega, closed_full h5 hd, Int.le_refl _⟩
    · have hm : (clsL (C : Int) l).getD j 0 ∈ clsL (C : Int) l := by rw [List.getD_eq_getElem?_getD, List.getElem?_eq_getElem hj]; exact List.getElem_mem hj
      obtain ⟨x, hx, hc, he⟩ := (cls_mem ha _).1 hm
      rw [he]
      exact ⟨hx, hc, by omega⟩
  have hT : isT (C : Int) (armL (C : Int) l) = true := by
    rw [hE]
    unfold isT
    rw [Bool.and_eq_true, Bool.and_eq_true, decide_eq_true_iff, decide_eq_true_iff, List.all_eq_true]
    refine ⟨fun r hr => ?_, ⟨by omega, by omega⟩, by unfold rowsA; rw [List.length_map]; omega⟩
    unfold rowsA at hr
    obtain ⟨p, hp, rfl⟩ := List.mem_map.1 hr
    unfold rowOk
    rw [Bool.and_eq_true, List.all_eq_true, decide_eq_true_iff]
    refine ⟨fun x hx => ?_, by rw [rowA_len]⟩
    have h2 := k2 p hp
    have h0 := (kp p hp).2.2
    unfold cellOk
    rcases rowA_mem hx with rfl | rfl
    · simp
    · simp; omega
  have hF : ∀ L R : Nat, L < 2 ^ C → R < C → holdsD (C : Int) (armL (C : Int) l) 0 (L : Int) (R : Int) = bitB (clo l L) R := by
    intro L R hL hR
    have hok : okD (C : Int) (armL (C : Int) l) 0 (L : Int) (R : Int) = true := by
      unfold okD fineT
      rw [hT, depB_iff.2 ⟨⟨by omega, by omega⟩, isA_fit h5 hL, by omega, by omega⟩]
      rfl
    rw [Bool.eq_iff_iff, holds_iff hok rfl rfl rfl h5 hR, hE, rows_hold h5 k1 (fun p hp => (kp p hp).1) hL hR]
    obtain ⟨c1, c2, c3, c4, c5⟩ := clo_spec h5 hd (x := L) (by omega)
    constructor
    · intro h
      refine Classical.byContradiction fun hno => ?_
      have hm : ((clo l L : Nat) : Int) ∈ clsL (C : Int) l := (cls_mem ha _).2 ⟨_, c3 hL, c4, rfl⟩
      obtain ⟨j, hj, hg⟩ := List.getElem_of_mem hm
      have hg' : (clsL (C : Int) l).getD j 0 = ((clo l L : Nat) : Int) := by rw [List.getD_eq_getElem?_getD, List.getElem?_eq_getElem hj]; exact hg
      have hne : (clsL (C : Int) l).getD j 0 ≠ (2 : Int) ^ C - 1 := by
        rw [hg']
        intro e
        have hz : ((2 ^ C : Nat) : Int) = (2 : Int) ^ C := by rw [Int.natCast_pow]; rfl
        have hp : 0 < 2 ^ C := Nat.pow_pos (by omega)
        have e' : clo l L = 2 ^ C - 1 := by omega
        have hf := full_bit ⟨C, by omega⟩ ⟨R, by omega⟩
        simp only at hf
        rw [e', hf, decide_eq_true hR] at hno
        exact hno rfl
      exact hno (by
        have := h (((clsL (C : Int) l).getD j 0).toNat, (j : Int) + 1) ((armP_mem _).2 (.inr ⟨j, hj, hne, rfl⟩)) (by rw [hg']; exact c2)
        rw [hg'] at this
        exact this)
    · intro h p hp hs
      exact sub_bitN c1 (by have := (kp p hp).1; omega) (c5 _ (by have := (kp p hp).1; omega) hs (kp p hp).2.1) (by omega) h
  refine ⟨hT, fun x hx => ?_, hF⟩
  obtain ⟨L, R, rfl, hL, hR⟩ := hd x hx
  rw [hF L R hL hR]
  obtain ⟨c1, c2, c3, c4, c5⟩ := clo_spec h5 hd (x := L) (by omega)
  exact c4 _ hx c2
/-- The rows of a table in which the dependencies hold and another one does not. -/
def ctrL (n : Int) (l : List (Int × Int)) (d : Int × Int) : List (List Int) := if arD n l = true ∧ depB n d.1 d.2 = true ∧ impB n l d = false then rowsA n.toNat [(2 ^ n.toNat - 1, 0), (clo l d.1.toNat, 1)] else []
def ctrB (n : Int) (l : List (Int × Int)) (d : Int × Int) : Bool := decide (arD n l = true ∧ depB n d.1 d.2 = true ∧ impB n l d = false)
theorem isA_lt12 {C : Nat} {x : Int} (hC : C ≤ 5) (h : isA (C : Int) x = true) : ∃ X : Nat, x = (X : Int) ∧ X < 32 ∧ X < 2 ^ C := by
  unfold isA at h
  rw [decide_eq_true_iff, show ((C : Int)).toNat = C from rfl] at h
  have h32 := two5 hC
  have hz : ((2 ^ C : Nat) : Int) = (2 : Int) ^ C := by rw [Int.natCast_pow]; rfl
  exact ⟨x.toNat, by omega, by omega, by omega⟩
theorem ctr_facts {n : Int} {l : List (Int × Int)} {d : Int × Int} (h : ctrB n l d = true) :
    isT n (ctrL n l d) = true ∧ (∀ x ∈ l, holdsD n (ctrL n l d) 0 x.1 x.2 = true) ∧ holdsD n (ctrL n l d) 0 d.1 d.2 = false ∧ (ctrL n l d).length = 2 := by
  have hc := of_decide_eq_true h
  obtain ⟨ha, hb, hi⟩ := hc
  obtain ⟨C, rfl, h1, h5, -, hd⟩ := arD_n ha
  have h32 := two5 h5
  obtain ⟨⟨-, -⟩, hA, hr0, hr1⟩ := depB_iff.1 hb
  obtain ⟨L, hL', hL32, hL⟩ := isA_lt12 h5 hA
  obtain ⟨R, hR'⟩ : ∃ R : Nat, d.2 = (R : Int) := ⟨d.2.toNat, by omega⟩
  have hR : R < C := by omega
  have hE : ctrL (C : Int) l d = rowsA C [(2 ^ C - 1, 0), (clo l L, 1)] := by
    unfold ctrL
    rw [if_pos ⟨ha, hb, hi⟩, hL']
    rfl
  have hno : bitB (clo l L) R = false := by
    unfold impB at hi
    rw [ha, hb, hL', hR', Bool.true_and, Bool.true_and] at hi
    exact hi
  obtain ⟨c1, c2, c3, c4, c5⟩ := clo_spec h5 hd (x := L) hL32
  have kA : AscZ C [(2 ^ C - 1, 0), (clo l L, 1)] := ⟨Nat.zero_lt_two, rfl, fun a b hab hb => by
    simp only [List.length_cons, List.length_nil] at hb
    obtain rfl : a = 0 := by omega
    obtain rfl : b = 1 := by omega
    exact Int.zero_lt_one⟩
  have kp : ∀ p ∈ [((2 ^ C - 1 : Nat), (0 : Int)), (clo l L, 1)], p.1 < 2 ^ C ∧ ClosedN l p.1 ∧ (p.2 = 0 ∨ p.2 = 1) := by
    intro p hp
    rcases List.mem_cons.1 hp with rfl | hp
    · have : 0 < 2 ^ C := Nat.pow_pos (by omega)
      exact ⟨by show 2 ^ C - 1 < 2 ^ C; omega, closed_full h5 hd, .inl rfl⟩
    · rw [List.mem_singleton] at hp
      subst hp
      exact ⟨c3 hL, c4, .inr rfl⟩
  have hT : isT (C : Int) (ctrL (C : Int) l d) = true := by
    rw [hE]
    unfold isT
    rw [Bool.and_eq_true, Bool.and_eq_true, decide_eq_true_iff, decide_eq_true_iff, List.all_eq_true]
    refine ⟨fun r hr => ?_, ⟨by omega, by omega⟩, by unfold rowsA; rw [List.length_map]; simp⟩
    unfold rowsA at hr
    obtain ⟨p, hp, rfl⟩ := List.mem_map.1 hr
    unfold rowOk
    rw [Bool.and_eq_true, List.all_eq_true, decide_eq_true_iff]
    refine ⟨fun x hx => ?_, by rw [rowA_len]⟩
    have h2 := (kp p hp).2.2
    unfold cellOk
    rcases rowA_mem hx with rfl | rfl
    · simp
    · simp; omega
  have hF : ∀ L' R' : Nat, L' < 2 ^ C → R' < C → (holdsD (C : Int) (ctrL (C : Int) l d) 0 (L' : Int) (R' : Int) = true ↔ ∀ p ∈ [((2 ^ C - 1 : Nat), (0 : Int)), (clo l L, 1)], subN L' p.1 = true → bitB p.1 R' = true) := by
    intro L' R' hL' hR'
    have hok : okD (C : Int) (ctrL (C : Int) l d) 0 (L' : Int) (R' : Int) = true := by
      unfold okD fineT
      rw [hT, depB_iff.2 ⟨⟨by omega, by omega⟩, isA_fit h5 hL', by omega, by omega⟩]
      rfl
    rw [holds_iff hok rfl rfl rfl h5 hR', hE, rows_hold h5 kA (fun p hp => (kp p hp).1) hL' hR']
  refine ⟨hT, fun x hx => ?_, ?_, by rw [hE]; rfl⟩
  · have hx' := hx
    obtain ⟨L', R', rfl, hL2, hR2⟩ := hd x hx
    exact (hF L' R' hL2 hR2).2 fun p hp hs => (kp p hp).2.1 _ hx' hs
  · rw [hL', hR', Bool.eq_false_iff]
    intro hh
    have := (hF L R hL hR).1 hh (clo l L, 1) (by simp) c2
    rw [hno] at this
    cases this
end Go.Proofs.Ytbldcdlpcidffaa
namespace Go.Proofs.Ytbldcdlpcidffaa
open Go.RowKit

/-- A table in memory of the call's own, and a bool. -/
def RetTB (rc : Int) (d : List (List Int)) (ok : Bool) (w : World) (e : Ending) (w' : World) : Prop :=
  ∃ v, e = .returned (.tuple #[.agg #[.int .i64 rc, v], .bool ok]) ∧ OwnSS w' w.heap.size w'.heap.size v d ∧ Below w.heap.size w w'
def BxT (w : World) (b : Nat) (c : Int) (u : Value) : Prop := w.heap[b]? = some (.cells #[.int .i64 c, u] 35 (0, 0))
theorem BxT.c0 {w : World} {b : Nat} {c : Int} {u : Value} (h : BxT w b c u) : w.cell? ⟨b, 0, none⟩ = some (.int .i64 c) := by rw [cell_of_row w b 0 _ _ _ h]; rfl
theorem BxT.c1 {w : World} {b : Nat} {c : Int} {u : Value} (h : BxT w b c u) : w.cell? ⟨b, 1, none⟩ = some u := by rw [cell_of_row w b 1 _ _ _ h]; rfl
theorem BxT.f0 {w : World} {b : Nat} {c : Int} {u : Value} (h : BxT w b c u) : w.frozen? ⟨b, 0, none⟩ = false := frozen_of_row w b 0 _ _ h
theorem BxT.f1 {w : World} {b : Nat} {c : Int} {u : Value} (h : BxT w b c u) : w.frozen? ⟨b, 1, none⟩ = false := frozen_of_row w b 1 _ _ h
theorem BxT.lt {w : World} {b : Nat} {c : Int} {u : Value} (h : BxT w b c u) : b < w.heap.size := (Array.getElem?_eq_some_iff.1 h).1
theorem BxT.keep {w w' : World} {b : Nat} {c : Int} {u : Value} (h : BxT w b c u) (hb : Below w.heap.size w w') : BxT w' b c u := (hb.block b h.lt).trans h
theorem BxT.grown {w w' : World} {b : Nat} {c : Int} {u : Value} {row : Option Nat} (h : BxT w b c u) (hg : w.grownBy w' row) (hne : row ≠ some b) : BxT w' b c u := (hg.block b h.lt (Ne.symm hne)).trans h
theorem BxT.far {w : World} {b c k : Nat} {x : Int} {u v : Value} (h : BxT w b x u) (hc : b ≠ c) : BxT (w.setCell ⟨c, k, none⟩ v) b x u := (Below.heap_setCell w ⟨c, k, none⟩ v b hc).trans h
theorem BxT.set1 {w : World} {b : Nat} {c : Int} {u v : Value} (h : BxT w b c u) : BxT (w.setCell ⟨b, 1, none⟩ v) b c v := by
  unfold BxT at *
  simp only [World.setCell, Array.getElem?_modify]
  rw [if_pos trivial, h]
  rfl
theorem BxT.put {w : World} {b : Nat} {c c' : Int} {u v : Value} (h : BxT w b c u) : BxT ((w.setCell ⟨b, 0, none⟩ (.int .i64 c')).setCell ⟨b, 1, none⟩ v) b c' v := by
  have h1 : BxT (w.setCell ⟨b, 0, none⟩ (.int .i64 c')) b c' u := by
    unfold BxT at *
    simp only [World.setCell, Array.getElem?_modify]
    rw [if_pos trivial, h]
    rfl
  exact h1.set1
theorem bxt_new (w : World) (c : Int) (u : Value) : BxT (w.alloc (.cells #[.int .i64 c, u] 35)) w.heap.size c u := heap_alloc_new w _
theorem rowA_zero (X : Nat) : ∀ C, rowA X 0 C = List.replicate C 0
  | 0 => rfl
  | C + 1 => by
    unfold rowA
    rw [rowA_zero X C, List.replicate_succ']
    congr 1
    split <;> rfl
theorem make_zeros (C : Nat) (hC : C ≤ 1000) (w : World) : (Instr.makeSlice 43 (.int .i64 (C : Int)) (.int .i64 (C : Int))).run Try.prog w = .ok (.slice (some ⟨w.heap.size, 0, none⟩) C C) (w.alloc (.cells (madeCells (Value.cells (.int .i64 0)) (C * 1)) 3)) := by
  obtain ⟨i0, hi, hz0, hz1, hz2⟩ := info_parts info3j
  have h := run_make (P := Try.prog) w 43 3 i0 (.int .i64 0) Try.underlying43 hi hz0 .i64 .i64 (C : Int) (C : Int) (by omega) (Int.le_refl _) (by rw [hz2]; omega) (by omega)
  rw [hz1] at h
  simp only [Int.toNat_natCast] at h
  exact h
theorem own_zeros (w : World) (B C : Nat) (hB : B ≤ w.heap.size) (hC : C ≤ 1000) : OwnI (w.alloc (.cells (madeCells (Value.cells (.int .i64 0)) (C * 1)) 3)) B (.slice (some ⟨w.heap.size, 0, none⟩) C C) (List.replicate C 0) :=
  OwnI.full (World.ownsRow_lit w _ C hB (by unfold maxLen; omega) (size_madeCells _ _))
/-- Two rows of a table, each in a block of its own. -/
theorem own_two {w : World} {B C a : Nat} {u0 u1 : Value} {l0 l1 : List Int} (h0 : OwnI w B u0 l0) (h1 : OwnI w B u1 l1) (hne : ∀ g, u0.ownBlock = some g → u1.ownBlock ≠ some g) (hB : B ≤ w.heap.size)
    (hC : C = (w.alloc (.cells #[u0, u1] 43)).heap.size) (ha : a = w.heap.size) : OwnSS (w.alloc (.cells #[u0, u1] 43)) B C (.slice (some ⟨a, 0, none⟩) 2 2) [l0, l1] := by
  subst hC ha
  have k0 : OwnI (w.alloc (.cells #[u0, u1] 43)) B u0 l0 := World.ownsRow.alloc h0 _
  have k1 : OwnI (w.alloc (.cells #[u0, u1] 43)) B u1 l1 := World.ownsRow.alloc h1 _
  refine ⟨fun i => if i = 0 then u0 else u1, ?_, fun g hg => ?_, fun i hi => ?_, fun i j hij hj g hg => ?_⟩
  · exact World.ownsRow_lit w #[u0, u1] 2 hB (by unfold maxLen; omega) rfl
  · simp [Value.ownBlock] at hg
    rw [← hg]; simp
  · have hi2 : i < 2 := hi
    rcases (show i = 0 ∨ i = 1 by omega) with rfl | rfl
    · exact ⟨k0, fun g hg => (k0.lt g hg).2⟩
    · exact ⟨k1, fun g hg => (k1.lt g hg).2⟩
  · have hj2 : j < 2 := hj
    obtain rfl : i = 0 := by omega
    obtain rfl : j = 1 := by omega
    exact hne g hg
end Go.Proofs.Ytbldcdlpcidffaa
