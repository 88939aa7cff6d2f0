/- Texts of this claim, merged: PnA. Conditions: as stated. -/
import Derived.Test.YtcgkfbjdlhapkaaYa36
import Derived.Test.YtcgkfbjdlhapkaaYa12
import Derived.Test.YtcgkfbjdlhapkaaYa17
import Derived.Test.YtcgkfbjdlhapkaaYa22
import Derived.Test.YtcgkfbjdlhapkaaPdKm
namespace Go.Proofs.Ytcgkfbjdlhapkaa
open Go.RowKit

/-- A dependency that keeps a set from a normal form, the Rights of some columns spared. -/
def ofG (l : List (Int × Int)) (T P : Nat) (d : Int × Int) : Bool := !bitB P d.2.toNat && !subN T (clo l d.1.toNat)
def ofL (n : Int) (l : List (Int × Int)) (T P : Nat) : List (Int × Int) := (pjL n l (T : Int)).filter (ofG l T P)
theorem fst13_filter (p : Int × Int → Bool) : ∀ l : List (Int × Int), (fst13 p l).2 = false ∧ l.filter p = [] ∨ (fst13 p l).2 = true ∧ 0 < (l.filter p).length ∧ (l.filter p).getD 0 (0, 0) = (fst13 p l).1
  | [] => .inl ⟨rfl, rfl⟩
  | d :: r => by
    unfold fst13
    by_cases h : p d = true
    · rw [if_pos h, List.filter_cons_of_pos h]
      exact .inr ⟨rfl, by simp, rfl⟩
    · rw [if_neg h, List.filter_cons_of_neg h]
      exact fst13_filter p r
theorem ofG_zero (l : List (Int × Int)) (T : Nat) : ofG l T 0 = badN l T := by
  funext d
  unfold ofG badN bitB
  simp
theorem of_bd (n : Int) (l : List (Int × Int)) (T : Nat) : (bdD n l (T : Int)).2 = false ∧ ofL n l T 0 = [] ∨ (bdD n l (T : Int)).2 = true ∧ 0 < (ofL n l T 0).length ∧ (ofL n l T 0).getD 0 (0, 0) = (bdD n l (T : Int)).1 := by
  have h := fst13_filter (badN l T) (pjL n l (T : Int))
  unfold ofL
  rw [ofG_zero]
  exact h
theorem ofL_len (n : Int) (l : List (Int × Int)) (T P : Nat) : (ofL n l T P).length ≤ 160 := Nat.le_trans (List.length_filter_le _ _) (pjL_len n l (T : Int))
theorem by_of (n : Int) (l : List (Int × Int)) (T : Nat) : byB n l (T : Int) = (fineN n l (T : Int) && decide ((ofL n l T 0).length = 0)) := by
  unfold byB
  rcases of_bd n l T with ⟨h1, h2⟩ | ⟨h1, h2, -⟩
  · rw [h1, h2]; rfl
  · rw [h1, decide_eq_false (by omega)]; rfl
theorem kw_eq {C T : Nat} (hC : C ≤ 5) (hT : T < 2 ^ C) (l : List (Int × Int)) : minS (brdTo (kyG l T) (T + 1)) = kwL l C T := by
  have h32 := two5 hC
  refine minS_ext (brdTo_ok _ (by omega)) (brdTo_ok _ h32) fun y => ?_
  rw [brdTo_mem, brdTo_mem]
  constructor
  · rintro ⟨x, h1, h2, h3⟩
    exact ⟨x, by omega, h2, h3⟩
  · rintro ⟨x, h1, h2, h3⟩
    have h4 : subN x T = true := by
      unfold kwG at h2
      rw [Bool.and_eq_true] at h2
      exact h2.1
    exact ⟨x, by have := subN_le13 h4; omega, h2, h3⟩
theorem kwL_mem {C W : Nat} (hC : C ≤ 5) {l : List (Int × Int)} {y : Int} (h : y ∈ kwL l C W) : ∃ x : Nat, y = (x : Int) ∧ x < 32 := by
  have h32 := two5 hC
  obtain ⟨x, h1, -, rfl, -⟩ := (minS_brd (kwG l W) h32 y).1 h
  exact ⟨x, rfl, by omega⟩
theorem kwL_or {C W : Nat} (hC : C ≤ 5) (l : List (Int × Int)) : ∃ P : Nat, orL (kwL l C W) (kwL l C W).length = (P : Int) ∧ P < 32 := by
  obtain ⟨P, e, hP, -⟩ := orL_facts (kwL l C W) (fun y hy => kwL_mem hC hy) _ (Nat.le_refl _)
  exact ⟨P, e, hP⟩
theorem th_ofL {C T P : Nat} (hC : C ≤ 5) (hT : T < 2 ^ C) (l : List (Int × Int)) (hP : orL (kwL l C T) (kwL l C T).length = (P : Int)) : thB (C : Int) l (T : Int) = (fineN (C : Int) l (T : Int) && decide ((ofL (C : Int) l T P).length = 0)) := by
  have hp : prN l T = (P : Int) := by
    unfold prN
    rw [kw_eq hC hT, hP]
  unfold thB
  rw [show ((T : Int)).toNat = T from rfl, hp, show ((P : Int)).toNat = P from rfl]
  congr 1
  rw [Bool.eq_iff_iff, List.all_eq_true, decide_eq_true_iff]
  unfold ofL
  rw [List.length_eq_zero_iff, List.filter_eq_nil_iff]
  have he : ∀ d, ofG l T P d = thG l T P d := fun d => by
    unfold ofG thG badN
    rw [Bool.and_comm]
  constructor
  · intro h d hd hg
    have := h d hd
    rw [he] at hg
    rw [hg] at this
    cases this
  · intro h d hd
    have := h d hd
    rw [he] at this
    cases hq : thG l T P d with
    | false => rfl
    | true => exact absurd hq this
/-- The division of a set, as a list. -/
def dvN (n : Int) (l : List (Int × Int)) : Nat → Nat → List Int
  | 0, T => [(T : Int)]
  | f + 1, T => if (bdD n l (T : Int)).2 = true then dvN n l f (clo l (bdD n l (T : Int)).1.1.toNat &&& T) ++ dvN n l f ((T ^^^ (clo l (bdD n l (T : Int)).1.1.toNat &&& T)) ||| (bdD n l (T : Int)).1.1.toNat) else [(T : Int)]
theorem dvN_leaf {n : Int} {l : List (Int × Int)} {T : Nat} (h : (bdD n l (T : Int)).2 = false) : ∀ k, dvN n l k T = [(T : Int)]
  | 0 => rfl
  | k + 1 => by
    show (if (bdD n l (T : Int)).2 = true then _ else [(T : Int)]) = _
    rw [h, if_neg (by decide)]
theorem dvN_node {n : Int} {l : List (Int × Int)} {T : Nat} (h : (bdD n l (T : Int)).2 = true) (k : Nat) :
    dvN n l (k + 1) T = dvN n l k (clo l (bdD n l (T : Int)).1.1.toNat &&& T) ++ dvN n l k ((T ^^^ (clo l (bdD n l (T : Int)).1.1.toNat &&& T)) ||| (bdD n l (T : Int)).1.1.toNat) := by
  show (if (bdD n l (T : Int)).2 = true then _ else [(T : Int)]) = _
  rw [if_pos h]
theorem dvN_len (n : Int) (l : List (Int × Int)) : ∀ (k T : Nat), (dvN n l k T).length ≤ 2 ^ k
  | 0, T => Nat.le_refl _
  | k + 1, T => by
    cases h : (bdD n l (T : Int)).2 with
    | false =>
      rw [dvN_leaf h]
      exact Nat.pow_pos (by decide)
    | true =>
      rw [dvN_node h, List.length_append, Nat.pow_succ]
      have h1 := dvN_len n l k (clo l (bdD n l (T : Int)).1.1.toNat &&& T)
      have h2 := dvN_len n l k ((T ^^^ (clo l (bdD n l (T : Int)).1.1.toNat &&& T)) ||| (bdD n l (T : Int)).1.1.toNat)
      omega
theorem dv_spl (n : Int) (l : List (Int × Int)) (y : Int) : ∀ (f T : Nat) (out : List Int), y ∈ splN n l f T out ↔ y ∈ out ∨ y ∈ dvN n l f T
  | 0, T, out => by
    show y ∈ put4 out (T : Int) ↔ y ∈ out ∨ y ∈ [(T : Int)]
    rw [put4_mem, List.mem_singleton, or_comm]
  | f + 1, T, out => by
    cases h : (bdD n l (T : Int)).2 with
    | false =>
      rw [splN_leaf h, dvN_leaf h, put4_mem, List.mem_singleton, or_comm]
    | true =>
      rw [splN_node h, dvN_node h, dv_spl n l y f, dv_spl n l y f, List.mem_append, or_assoc]
theorem dv_bd {C : Nat} {l : List (Int × Int)} (hC : C ≤ 5) {f T : Nat} (hT : T < 32) (hTC : T < 2 ^ C) (hp : popN T ≤ f) : ∀ y ∈ dvN (C : Int) l f T, ∃ S : Nat, y = (S : Int) ∧ S < 32 := fun y hy => by
  rcases (spl_facts (l := l) hC f T [] hT hTC hp).1 y ((dv_spl _ l y f T []).2 (.inr hy)) with h | ⟨S, s1, s2, -⟩
  · cases h
  · exact ⟨S, s1, s2⟩
theorem setsOk_of {l : List Int} (h : ∀ y ∈ l, ∃ S : Nat, y = (S : Int) ∧ S < 32) (hl : l.length ≤ 100) : setsOk l = true := by
  unfold setsOk
  rw [decide_eq_true hl, Bool.and_true, List.all_eq_true]
  intro y hy
  obtain ⟨S, rfl, hS⟩ := h y hy
  exact val_small13 ⟨S, hS⟩
theorem dv_max {C : Nat} {l : List (Int × Int)} (ha : arD (C : Int) l = true) : maxS (dvN (C : Int) l 6 (2 ^ C - 1)) = dcL (C : Int) l := by
  obtain ⟨C', e', hC1, hC, -, -⟩ := arD_n ha
  obtain rfl : C = C' := by omega
  have h32 := two5 hC
  have hp := Nat.pow_pos (n := C) (show 0 < 2 by decide)
  have hpo : popN (2 ^ C - 1) ≤ 6 := Nat.le_trans (popN_le _) (by decide)
  unfold dcL
  rw [if_pos ha, show ((C : Int)).toNat = C from rfl]
  have hb := dv_bd (l := l) hC (T := 2 ^ C - 1) (by omega) (by omega) hpo
  have hs := (spl_facts (l := l) hC 6 (2 ^ C - 1) [] (by omega) (by omega) hpo)
  refine maxS_ext (setsOk_of hb (Nat.le_trans (dvN_len _ _ _ _) (by decide))) (setsOk_of (fun y hy => ?_) (Nat.le_trans hs.2.2.2 (by decide))) fun y => ?_
  · rcases hs.1 y hy with h | ⟨S, s1, s2, -⟩
    · cases h
    · exact ⟨S, s1, s2⟩
  · rw [dv_spl]
    simp
/-- Left and the Rights of all dependencies with it, for each dependency. -/
def syP (c : List (Int × Int)) : List Int := c.map (fun d => ((syN c d.1.toNat c.length : Nat) : Int))
theorem syP_mem (c : List (Int × Int)) (y : Int) : y ∈ syP c ↔ y ∈ syO c c.length := by
  rw [syO_mem]
  unfold syP
  rw [List.mem_map]
  constructor
  · rintro ⟨d, hd, rfl⟩
    obtain ⟨i, hi, e⟩ := mem_at11 hd
    exact ⟨i, hi, by rw [e]⟩
  · rintro ⟨j, hj, rfl⟩
    exact ⟨_, memD hj, rfl⟩
theorem subN_full {C S : Nat} (hC : C ≤ 5) (hS : S < 2 ^ C) : subN (2 ^ C - 1) S = true ↔ S = 2 ^ C - 1 := by
  have h32 := two5 hC
  have h := (sub_full11 ⟨C, by omega⟩ ⟨S, by omega⟩ hS).2
  simp only at h
  rw [h, beq_iff_eq]
/-- A set holds a key just if its closure holds all columns. -/
theorem key_in {C S : Nat} {l : List (Int × Int)} (ha : arD (C : Int) l = true) (hS : S < 2 ^ C) : (∃ K : Nat, (K : Int) ∈ koL (C : Int) l ∧ K < 32 ∧ subN K S = true) ↔ subN (2 ^ C - 1) (clo l S) = true := by
  obtain ⟨C', e', hC1, hC, -, hd⟩ := arD_n ha
  obtain rfl : C = C' := by omega
  have h32 := two5 hC
  obtain ⟨c1, c2, c3, c4, c5⟩ := clo_spec hC hd (x := S) (by omega)
  constructor
  · rintro ⟨K, hK, hK32, hs⟩
    obtain ⟨C', x, e, -, -, ex, -, -, hf⟩ := key_facts hK
    obtain rfl : C = C' := by omega
    obtain rfl : K = x := by omega
    have := clo_mono hC hd hK32 (by omega) hs
    rw [hf] at this
    exact this
  · intro h
    have hf : clo l S = 2 ^ C - 1 := (subN_full hC (c3 hS)).1 h
    obtain ⟨y, hy, -, hs, hP, hm⟩ := min_ex13 (P := fun x => x < 2 ^ C ∧ spn l C x = true) S (by omega) ⟨hS, by unfold spn; rw [hf, beq_self_eq_true]⟩
    refine ⟨y, ?_, hy, hs⟩
    unfold koL koC
    rw [if_pos ha, show ((C : Int)).toNat = C from rfl, minS_brd (spn l C) h32]
    exact ⟨y, hP.1, hP.2, rfl, fun z hz hg hs => hm z (by omega) ⟨hz, hg⟩ hs⟩
theorem sy_members {C : Nat} {l : List (Int × Int)} (ha : arD (C : Int) l = true) : ∀ y ∈ syP (coL11 (C : Int) l), ∃ S : Nat, y = (S : Int) ∧ S < 32 ∧ S < 2 ^ C := fun y hy => by
  obtain ⟨C', e', hC1, hC, -, -⟩ := arD_n ha
  obtain rfl : C = C' := by omega
  have h32 := two5 hC
  obtain ⟨-, hcd, -, -⟩ := cov_facts ha
  obtain ⟨j, hj, rfl⟩ := (syO_mem _).1 ((syP_mem _ _).1 hy)
  obtain ⟨L, A, e, hL, hA⟩ := hcd _ (memD hj)
  rw [e, show ((L : Int)).toNat = L from rfl]
  obtain ⟨h1, h2, -⟩ := syN_bits hC hcd (L := L) (by omega) hL _ (Nat.le_refl _)
  exact ⟨_, rfl, h1, h2⟩
def syB (C : Nat) (l : List (Int × Int)) (y : Int) : Bool := subN (2 ^ C - 1) (clo l y.toNat)
theorem sy_has {C : Nat} {l : List (Int × Int)} (ha : arD (C : Int) l = true) : syH (koL (C : Int) l) (syO (coL11 (C : Int) l) (coL11 (C : Int) l).length) (syO (coL11 (C : Int) l) (coL11 (C : Int) l).length).length = (syP (coL11 (C : Int) l)).any (syB C l) := by
  rw [Bool.eq_iff_iff, syH_iff, List.any_eq_true]
  have hm := sy_members ha
  constructor
  · rintro ⟨i, hi, h⟩
    obtain ⟨j, hj, h⟩ := (syK_iff _ _ _).1 h
    have hy := (syP_mem _ _).2 (mem_getD.2 ⟨i, hi, rfl⟩)
    refine ⟨_, hy, ?_⟩
    obtain ⟨S, eS, hS, hSC⟩ := hm _ hy
    have hk := mem_getD.2 ⟨j, hj, rfl⟩
    obtain ⟨C', Q, e, -, -, eQ, hQC, hQ, hQf⟩ := key_facts hk
    obtain rfl : C = C' := by omega
    rw [eQ, eS] at h
    rw [eQ] at hk
    rw [eS]
    have h5 := sub_and ⟨Q, hQ⟩ ⟨S, hS⟩
    simp only at h5
    exact (key_in ha hSC).1 ⟨Q, hk, hQ, by rw [← h5, h]; simp⟩
  · rintro ⟨y, hy, h⟩
    obtain ⟨S, rfl, hS, hSC⟩ := hm y hy
    obtain ⟨K, hK, hK32, hs⟩ := (key_in ha hSC).2 h
    obtain ⟨i, hi, e⟩ := mem_getD.1 ((syP_mem _ _).1 hy)
    obtain ⟨j, hj, ej⟩ := mem_getD.1 hK
    refine ⟨i, hi, (syK_iff _ _ _).2 ⟨j, hj, ?_⟩⟩
    rw [← e, ← ej]
    have h5 := sub_and ⟨K, hK32⟩ ⟨S, hS⟩
    simp only at h5
    rw [hs] at h5
    simpa using h5
def syQ (n : Int) (C : Nat) (l : List (Int × Int)) : List Int := if (syP (coL11 n l)).any (syB C l) = true then syP (coL11 n l) else syP (coL11 n l) ++ [(koL n l).getD 0 0]
theorem syQ_bd {C : Nat} {l : List (Int × Int)} (ha : arD (C : Int) l = true) : (∀ y ∈ syQ (C : Int) C l, ∃ S : Nat, y = (S : Int) ∧ S < 32) ∧ (syQ (C : Int) C l).length ≤ 21 := by
  have hm := sy_members ha
  obtain ⟨C', e', -, -, hl20, -⟩ := arD_n ha
  have hlen := coL11_len (C : Int) l
  have hpl : (syP (coL11 (C : Int) l)).length = (coL11 (C : Int) l).length := List.length_map _
  have hK0 : (koL (C : Int) l).getD 0 0 ∈ koL (C : Int) l := mem_getD.2 ⟨0, koL_pos ha, rfl⟩
  obtain ⟨C', K, e, -, -, eK, hKC, hK, hKf⟩ := key_facts hK0
  unfold syQ
  split
  · exact ⟨fun y hy => by obtain ⟨S, h1, h2, -⟩ := hm y hy; exact ⟨S, h1, h2⟩, by omega⟩
  · refine ⟨fun y hy => ?_, by rw [List.length_append, List.length_singleton]; omega⟩
    rcases List.mem_append.1 hy with hy | hy
    · obtain ⟨S, h1, h2, -⟩ := hm y hy
      exact ⟨S, h1, h2⟩
    · rw [List.mem_singleton] at hy
      exact ⟨K, by rw [hy, eK], hK⟩
theorem sy_max {C : Nat} {l : List (Int × Int)} (ha : arD (C : Int) l = true) : maxS (syQ (C : Int) C l) = syL (C : Int) l := by
  obtain ⟨q1, q2⟩ := syQ_bd ha
  obtain ⟨f1, -, -, f4⟩ := syF_facts ha
  have e : syL (C : Int) l = maxS (syF (C : Int) l) := by unfold syL; rw [if_pos ha]; rfl
  rw [e]
  refine maxS_ext (setsOk_of q1 (by omega)) (setsOk_of (fun y hy => by obtain ⟨S, h1, h2, -⟩ := f1 y hy; exact ⟨S, h1, h2⟩) (by omega)) fun y => ?_
  unfold syQ syF
  rw [sy_has ha]
  split
  · exact syP_mem _ _
  · rw [List.mem_append, List.mem_singleton, syP_mem, put4_mem, or_comm]
theorem alTo_mem {n : Int} {l : List (Int × Int)} {ps : List Int} {d : Int × Int} : ∀ k, (d ∈ alTo n l ps k ↔ ∃ i, i < k ∧ d ∈ pjL n l (ps.getD i 0))
  | 0 => by
    constructor
    · intro h
      cases h
    · rintro ⟨i, h, -⟩
      omega
  | k + 1 => by
    show d ∈ alTo n l ps k ++ pjL n l (ps.getD k 0) ↔ _
    rw [List.mem_append, alTo_mem k]
    constructor
    · rintro (⟨i, h1, h2⟩ | h)
      · exact ⟨i, by omega, h2⟩
      · exact ⟨k, by omega, h⟩
    · rintro ⟨i, h1, h2⟩
      by_cases e : i = k
      · subst e; exact .inr h2
      · exact .inl ⟨i, by omega, h2⟩
theorem alTo_all {n : Int} {l : List (Int × Int)} {ps : List Int} {d : Int × Int} : d ∈ alTo n l ps ps.length ↔ ∃ s ∈ ps, d ∈ pjL n l s := by
  rw [alTo_mem]
  constructor
  · rintro ⟨i, h1, h2⟩
    exact ⟨_, mem_getD.2 ⟨i, h1, rfl⟩, h2⟩
  · rintro ⟨s, h1, h2⟩
    obtain ⟨i, hi, e⟩ := mem_getD.1 h1
    exact ⟨i, hi, by rw [← e]; exact h2⟩
theorem clo_ext {C : Nat} (hC : C ≤ 5) {l l' : List (Int × Int)} (h1 : DepsN C l) (h2 : DepsN C l') (he : ∀ d, d ∈ l ↔ d ∈ l') {x : Nat} (hx : x < 32) : clo l x = clo l' x := by
  obtain ⟨c1, c2, -, c4, c5⟩ := clo_spec hC h1 hx
  have hcl : ∀ y, ClosedN l y ↔ ClosedN l' y := fun y => ⟨fun h d hd => h d ((he d).2 hd), fun h d hd => h d ((he d).1 hd)⟩
  exact clo_unique hC h2 hx c1 c2 ((hcl _).1 c4) fun z hz hs hc => c5 z hz hs ((hcl z).2 hc)
/-- The different ones of a list of sets, in ascending order. -/
def dfP (ps : List Int) : List Int := lstF (memF ps)
theorem dfP_mem {C : Nat} (hC : C ≤ 5) {ps : List Int} (h : ps.all (isA (C : Int)) = true) (y : Int) : y ∈ dfP ps ↔ y ∈ ps := by
  unfold dfP memF
  rw [lstF_mem]
  constructor
  · rintro ⟨j, h1, h2, rfl⟩
    exact of_decide_eq_true h2
  · intro hy
    obtain ⟨X, rfl, hX, -⟩ := isA_lt12c hC (List.all_eq_true.1 h y hy)
    exact ⟨X, hX, decide_eq_true hy, rfl⟩
theorem ps_df {C : Nat} {l : List (Int × Int)} (hC : C ≤ 5) {ps : List Int} (ha : arD (C : Int) l = true) (h : ps.all (isA (C : Int)) = true) : psB (C : Int) l ps = l.all (fun d => bitB (clo (alTo (C : Int) l (dfP ps) (dfP ps).length) d.1.toNat) d.2.toNat) := by
  obtain ⟨C', e', -, -, -, hd⟩ := arD_n ha
  obtain rfl : C = C' := by omega
  have h32 := two5 hC
  unfold psB
  rw [ha, h, Bool.true_and, Bool.true_and, Bool.eq_iff_iff, List.all_eq_true, List.all_eq_true]
  have hx : ∀ d ∈ l, clo (alTo (C : Int) l ps ps.length) d.1.toNat = clo (alTo (C : Int) l (dfP ps) (dfP ps).length) d.1.toNat := fun d hm => by
    obtain ⟨L, R, rfl, hL, hR⟩ := hd d hm
    refine clo_ext hC (alTo_deps _) (alTo_deps _) (fun d => ?_) (show L < 32 by omega)
    rw [alTo_all, alTo_all]
    constructor
    · rintro ⟨s, h1, h2⟩
      exact ⟨s, (dfP_mem hC h s).2 h1, h2⟩
    · rintro ⟨s, h1, h2⟩
      exact ⟨s, (dfP_mem hC h s).1 h1, h2⟩
  constructor
  · intro h d hm
    rw [← hx d hm]
    exact h d hm
  · intro h d hm
    rw [hx d hm]
    exact h d hm
theorem div_int13 : ∀ T K : Fin 32, bits .and .i64 ((T.val : Nat) : Int) ((K.val : Nat) : Int) = ((K.val &&& T.val : Nat) : Int) ∧ bits .andNot .i64 ((T.val : Nat) : Int) ((K.val : Nat) : Int) = ((T.val ^^^ (K.val &&& T.val) : Nat) : Int) := by decide +kernel
theorem or_int13p : ∀ L X : Fin 32, bits .or .i64 ((L.val : Nat) : Int) ((X.val : Nat) : Int) = ((X.val ||| L.val : Nat) : Int) := by decide +kernel
end Go.Proofs.Ytcgkfbjdlhapkaa
