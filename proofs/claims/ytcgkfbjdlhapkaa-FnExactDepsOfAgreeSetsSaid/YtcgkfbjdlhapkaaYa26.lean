/- Texts of this claim, merged: ClT, ClU, PdA, ImB, Wo, DepE, ImC. Conditions: as stated. -/
import Derived.Test.YtcgkfbjdlhapkaaYa22
import Derived.Test.YtcgkfbjdlhapkaaClNm
import Derived.Test.YtcgkfbjdlhapkaaYa23
import Derived.Test.YtcgkfbjdlhapkaaClQm
import Derived.Test.YtcgkfbjdlhapkaaYa11
import Derived.Test.YtcgkfbjdlhapkaaYa12
import Derived.Test.YtcgkfbjdlhapkaaYa7
import Derived.Deep.RegionLaw
import Derived.Deep.CutBlock
import Derived.Deep.QuietTactic
import Derived.Deep.RegionHeld3
import Derived.Test.YtcgkfbjdlhapkaaYa3
import Derived.Lib.OthersKept
namespace Go.Proofs.Ytcgkfbjdlhapkaa
open Go.RowKit

theorem ded_facts {C : Nat} {l : List (Int × Int)} (hC : C ≤ 5) (ha : arD (C : Int) l = true) (hl : DepsN C l) :
    arD (C : Int) (dedTo (C : Int) l l.length) = true ∧ ∀ y, y < 32 → (ClosedN (dedTo (C : Int) l l.length) y ↔ ClosedN l y) := by
  have hlen := dedTo_len (C : Int) l l.length
  have h32 := two5 hC
  refine ⟨?_, fun y hy => ⟨fun hc d hd => ?_, fun hc d hd => ?_⟩⟩
  · have ha' := ha
    unfold arD at ha ⊢
    rw [Bool.and_eq_true, Bool.and_eq_true, List.all_eq_true, decide_eq_true_iff, decide_eq_true_iff] at ha ⊢
    refine ⟨fun d hd => ?_, ha.2.1, Nat.le_trans hlen ha.2.2⟩
    obtain ⟨j, hj, e⟩ := (dedTo_mem _).1 hd
    obtain ⟨L, R, e1, hL, hL32, hR, hb, e2⟩ := red_of hC ha' hl hj
    have hdp := ha.1 _ (memD hj)
    rw [e1] at hdp
    obtain ⟨k0, k1, k2, k3⟩ := depB_iff.1 hdp
    have hr := (redN_facts hC hl hL32 (show R < 5 by omega) 5 (Nat.le_refl _)).2.2.2.2 hL
    rw [e, e2]
    refine depB_iff.2 ⟨k0, ?_, k2, k3⟩
    unfold isA at k1 ⊢
    rw [decide_eq_true_iff] at k1 ⊢
    have hz : ((2 ^ C : Nat) : Int) = (2 : Int) ^ C := by rw [Int.natCast_pow]; rfl
    rw [show ((C : Int)).toNat = C from rfl] at k1 ⊢
    omega
  · obtain ⟨j, hj, ej⟩ := mem_at11 hd
    obtain ⟨L, R, e1, hL, hL32, hR, hb, e2⟩ := red_of hC ha hl hj
    rw [← ej, e1]
    intro hs
    have h := hc _ ((dedTo_mem _).2 ⟨j, hj, rfl⟩)
    rw [e2] at h
    exact h (subN_trans (redN_facts hC hl hL32 (show R < 5 by omega) 5 (Nat.le_refl _)).2.1 hs)
  · obtain ⟨j, hj, e⟩ := (dedTo_mem _).1 hd
    obtain ⟨L, R, e1, hL, hL32, hR, hb, e2⟩ := red_of hC ha hl hj
    obtain ⟨r1, r2, r3, r4, r5⟩ := redN_facts hC hl hL32 (show R < 5 by omega) 5 (Nat.le_refl _)
    rw [e, e2]
    intro hs
    exact cls_imp hC hl r1 (by omega) hy (r3 hb) hc hs
theorem brd_same {f g : Nat → Bool} : ∀ n, (∀ x, x < n → f x = g x) → brdTo f n = brdTo g n
  | 0, _ => rfl
  | n + 1, h => by
    have e1 : brdTo f (n + 1) = if f n = true then brdTo f n ++ [(n : Int)] else brdTo f n := rfl
    have e2 : brdTo g (n + 1) = if g n = true then brdTo g n ++ [(n : Int)] else brdTo g n := rfl
    rw [e1, e2, h n (by omega), brd_same n (fun x hx => h x (by omega))]
theorem cover_facts {n : Int} {l : List (Int × Int)} (ha : arD n l = true) :
    arD n (coL11 n l) = true ∧ (coL11 n l).length ≤ l.length ∧ smB n l (coL11 n l) = true ∧ icB n (coL11 n l) = true := by
  have ha0 := ha
  obtain ⟨C, rfl, hC1, hC5, hl20, hl⟩ := arD_n ha
  have h32 := two5 hC5
  obtain ⟨hq, hcq⟩ := ded_facts hC5 ha hl
  have hlen := dedTo_len (C : Int) l l.length
  have e : coL11 (C : Int) l = rmL (C : Int) (dedTo (C : Int) l l.length).length (dedTo (C : Int) l l.length) 0 := by unfold coL11; rw [if_pos ha]
  obtain ⟨h1, h2, h3, h4⟩ := rm_facts (n := (C : Int)) (dedTo (C : Int) l l.length).length (dedTo (C : Int) l l.length) 0 (by omega) (Nat.zero_le _) hq (fun j hj => absurd hj (Nat.not_lt_zero _))
  rw [← e] at h1 h2 h3 h4
  have hc := arD_sub hq h1 h2
  obtain ⟨C', e', -, -, -, hcl⟩ := arD_n hc
  obtain rfl : C = C' := by omega
  have hcl2 : ∀ y, y < 32 → (ClosedN (coL11 (C : Int) l) y ↔ ClosedN l y) := fun y hy => (h3 y hy).trans (hcq y hy)
  refine ⟨hc, by omega, ?_, ?_⟩
  · unfold smB
    rw [ha, hc, Bool.true_and, Bool.true_and, decide_eq_true_iff]
    unfold clsL
    rw [if_pos ha, if_pos hc]
    refine brd_same _ (fun x hx => ?_)
    rw [show ((C : Int)).toNat = C from rfl] at hx
    rw [Bool.eq_iff_iff, clB_iff, clB_iff]
    exact (hcl2 x (by omega)).symm
  · refine ic_all hc (fun j hj => ?_)
    unfold icAt
    rw [h4 j hj, Bool.not_false, Bool.true_and, decide_eq_true_iff]
    obtain ⟨m, hm, em⟩ := (dedTo_mem _).1 (h1 _ (memD hj))
    obtain ⟨L, R, e1, hL, hL32, hR, hb, e2⟩ := red_of hC5 ha hl hm
    rw [em, e2]
    obtain ⟨r1, r2, r3, r4, r5⟩ := redN_facts hC5 hl hL32 (show R < 5 by omega) 5 (Nat.le_refl _)
    unfold redD
    split
    · have hst := redN_stay (l := coL11 (C : Int) l) (R := R) (X := redN l R L 5) (fun k hk hbk => by
        have hx := (clrN_bits ⟨_, r1⟩ ⟨k, hk⟩).2.1
        rw [clo_same hC5 hcl hl hcl2 hx]
        exact r4 k hk hbk) 5 (Nat.le_refl _)
      show (((redN (coL11 (C : Int) l) R (redN l R L 5) 5 : Nat) : Int), (R : Int)) = _
      rw [hst]
    · rfl
theorem coL11_len (n : Int) (l : List (Int × Int)) : (coL11 n l).length ≤ l.length := by
  cases h : arD n l with
  | true => exact (cover_facts h).2.1
  | false => unfold coL11; rw [h]; exact Nat.zero_le _
theorem pjL_len (n : Int) (l : List (Int × Int)) (s : Int) : (pjL n l s).length ≤ 160 := by
  unfold pjL
  split
  · rename_i hp
    rw [Bool.and_eq_true] at hp
    obtain ⟨C, rfl, hC1, hC5, -, hl⟩ := arD_n hp.1
    have h1 := pjOut_len l s.toNat (parts (C : Int)) ((C : Int)).toNat
    have h2 := parts_len32 hC5
    have h3 : ((C : Int)).toNat * (parts (C : Int)).length ≤ 5 * 32 := Nat.mul_le_mul (by omega) h2
    omega
  · exact Nat.zero_le _
end Go.Proofs.Ytcgkfbjdlhapkaa
namespace Go.Proofs.Ytcgkfbjdlhapkaa
open Go.RowKit

theorem orB_fin : ∀ a b : Fin 32, bits .or .i64 ((a.val : Nat) : Int) ((b.val : Nat) : Int) = ((a.val ||| b.val : Nat) : Int) ∧ a.val ||| b.val < 32 ∧ subN a.val (a.val ||| b.val) = true ∧ subN b.val (a.val ||| b.val) = true := by decide +kernel
theorem key_facts {n : Int} {l : List (Int × Int)} {y : Int} (h : y ∈ koL n l) : ∃ C x : Nat, n = (C : Int) ∧ C ≤ 5 ∧ arD n l = true ∧ y = (x : Int) ∧ x < 2 ^ C ∧ x < 32 ∧ clo l x = 2 ^ C - 1 := by
  unfold koL koC at h
  split at h
  · rename_i ha
    obtain ⟨C, rfl, hC1, hC5, -, hl⟩ := arD_n ha
    have h32 := two5 hC5
    rw [show ((C : Int)).toNat = C from rfl, minS_brd _ h32] at h
    obtain ⟨x, hx, hg, rfl, -⟩ := h
    unfold spn at hg
    rw [beq_iff_eq] at hg
    exact ⟨C, x, rfl, hC5, ha, rfl, hx, by omega, hg⟩
  · cases h
theorem orL_facts (q : List Int) (hq : ∀ y ∈ q, ∃ x : Nat, y = (x : Int) ∧ x < 32) : ∀ k, k ≤ q.length → ∃ P : Nat, orL q k = (P : Int) ∧ P < 32 ∧ ∀ i, i < k → subN (q.getD i 0).toNat P = true
  | 0, _ => ⟨0, rfl, by omega, fun i hi => absurd hi (Nat.not_lt_zero _)⟩
  | k + 1, hk => by
    obtain ⟨P, e, hP, h⟩ := orL_facts q hq k (by omega)
    obtain ⟨x, ex, hx⟩ := hq (q.getD k 0) (by rw [List.getD_eq_getElem?_getD, List.getElem?_eq_getElem (show k < q.length by omega)]; exact List.getElem_mem _)
    obtain ⟨o1, o2, o3, o4⟩ := orB_fin ⟨P, hP⟩ ⟨x, hx⟩
    simp only at o1 o2 o3 o4
    refine ⟨P ||| x, ?_, o2, fun i hi => ?_⟩
    · show bits .or .i64 (orL q k) (q.getD k 0) = _
      rw [e, ex, o1]
    · by_cases ei : i = k
      · subst ei; rw [ex]; exact o4
      · exact subN_trans (h i (by omega)) o3
theorem prime_facts (n : Int) (l : List (Int × Int)) : ∃ P : Nat, prZ n l = (P : Int) ∧ P < 32 ∧ ∀ y ∈ koL n l, bits .and .i64 (P : Int) y = y := by
  obtain ⟨P, e, hP, h⟩ := orL_facts (koL n l) (fun y hy => by
    obtain ⟨C, x, -, -, -, e, -, hx, -⟩ := key_facts hy
    exact ⟨x, e, hx⟩) (koL n l).length (Nat.le_refl _)
  refine ⟨P, e, hP, fun y hy => ?_⟩
  obtain ⟨i, hi, ei⟩ := List.getElem_of_mem hy
  obtain ⟨C, x, -, -, -, ex, -, hx, -⟩ := key_facts hy
  have hs := h i hi
  rw [List.getD_eq_getElem?_getD, List.getElem?_eq_getElem hi, Option.getD_some, ei, ex] at hs
  have h2 := sub_and ⟨x, hx⟩ ⟨P, hP⟩
  simp only at h2
  rw [show ((x : Int)).toNat = x from rfl] at hs
  rw [hs, beq_iff_eq] at h2
  rw [ex]
  have hcm : ∀ a b : Fin 32, bits .and .i64 ((a.val : Nat) : Int) ((b.val : Nat) : Int) = bits .and .i64 ((b.val : Nat) : Int) ((a.val : Nat) : Int) := by decide +kernel
  have h3 := hcm ⟨P, hP⟩ ⟨x, hx⟩
  simp only at h3
  rw [h3, h2]
theorem pjIn_mem {l : List (Int × Int)} {s r : Nat} {ps : List Int} (hps : ∀ y ∈ ps, ∃ x : Nat, y = (x : Int) ∧ x < 32) {q : List (Int × Int)} : ∀ k, k ≤ ps.length → ∀ d ∈ pjIn l s r ps q k, d ∈ q ∨ ∃ x : Nat, (x : Int) ∈ ps ∧ d = ((x : Int), (r : Int)) ∧ x < 32 ∧ subN x s = true ∧ bitB (clo l x) r = true
  | 0, _, d, hd => .inl hd
  | k + 1, hk, d, hd => by
    have e : pjIn l s r ps q (k + 1) = if pjAt l s r (ps.getD k 0).toNat (pjIn l s r ps q k) = true then pjIn l s r ps q k ++ [(ps.getD k 0, (r : Int))] else pjIn l s r ps q k := rfl
    rw [e] at hd
    have hm : ps.getD k 0 ∈ ps := by rw [List.getD_eq_getElem?_getD, List.getElem?_eq_getElem (show k < ps.length by omega)]; exact List.getElem_mem _
    obtain ⟨x, ex, hx⟩ := hps _ hm
    split at hd
    · rename_i hp
      rcases List.mem_append.1 hd with h | h
      · exact pjIn_mem hps k (by omega) d h
      · rw [List.mem_singleton] at h
        rw [ex] at hp h hm
        unfold pjAt at hp
        rw [show ((x : Int)).toNat = x from rfl, Bool.and_eq_true, Bool.and_eq_true, Bool.and_eq_true] at hp
        exact .inr ⟨x, hm, h, hx, hp.1, hp.2.2.1⟩
    · exact pjIn_mem hps k (by omega) d hd
theorem pjOut_mem {l : List (Int × Int)} {s : Nat} {ps : List Int} (hps : ∀ y ∈ ps, ∃ x : Nat, y = (x : Int) ∧ x < 32) : ∀ r, ∀ d ∈ pjOut l s ps r, ∃ x R : Nat, (x : Int) ∈ ps ∧ R < r ∧ d = ((x : Int), (R : Int)) ∧ x < 32 ∧ subN x s = true ∧ bitB s R = true ∧ bitB (clo l x) R = true
  | 0, d, hd => by cases hd
  | r + 1, d, hd => by
    have e : pjOut l s ps (r + 1) = if bitB s r = true then pjIn l s r ps (pjOut l s ps r) ps.length else pjOut l s ps r := rfl
    rw [e] at hd
    split at hd
    · rename_i hb
      rcases pjIn_mem hps _ (Nat.le_refl _) d hd with h | ⟨x, h1, h2, h3, h4, h5⟩
      · obtain ⟨x, R, g1, g2, g3⟩ := pjOut_mem hps r d h
        exact ⟨x, R, g1, by omega, g3⟩
      · exact ⟨x, r, h1, by omega, h2, h3, h4, hb, h5⟩
    · obtain ⟨x, R, g1, g2, g3⟩ := pjOut_mem hps r d hd
      exact ⟨x, R, g1, by omega, g3⟩
/-- A dependency of a projection: its columns lie in the set, and it is implied. -/
theorem pj_facts {n s : Int} {l : List (Int × Int)} {d : Int × Int} (h : d ∈ pjL n l s) : ∃ x R T : Nat, d = ((x : Int), (R : Int)) ∧ s = (T : Int) ∧ x < 32 ∧ R < 5 ∧ T < 32 ∧ subN x T = true ∧ bitB T R = true ∧ impB n l d = true := by
  unfold pjL at h
  split at h
  · rename_i hp
    rw [Bool.and_eq_true] at hp
    obtain ⟨ha, hs⟩ := hp
    have ha0 := ha
    obtain ⟨C, rfl, hC1, hC5, -, hl⟩ := arD_n ha
    obtain ⟨T, rfl, hT, -⟩ := isA_lt hC5 hs
    obtain ⟨x, R, g1, g2, rfl, g3, g4, g5, g6⟩ := pjOut_mem (fun y hy => by
      obtain ⟨X, e, hX⟩ := parts_small _ y hy
      exact ⟨X, e, hX⟩) _ d h
    rw [show ((C : Int)).toNat = C from rfl] at g2
    rw [show ((T : Int)).toNat = T from rfl] at g4 g5
    refine ⟨x, R, T, rfl, rfl, g3, by omega, hT, g4, g5, ?_⟩
    obtain ⟨z, hz, ez⟩ := (parts_mem hC5 _).1 g1
    obtain rfl : x = z := by omega
    unfold impB
    rw [Bool.and_eq_true, Bool.and_eq_true]
    refine ⟨ha, depB_iff.2 ⟨⟨by omega, by omega⟩, ?_, ?_, ?_⟩, g6⟩
    · unfold isA
      rw [decide_eq_true_iff]
      have hz2 : ((2 ^ C : Nat) : Int) = (2 : Int) ^ C := by rw [Int.natCast_pow]; rfl
      simp only
      rw [show ((C : Int)).toNat = C from rfl]
      omega
    · simp only; omega
    · simp only; omega
  · cases h
end Go.Proofs.Ytcgkfbjdlhapkaa
namespace Go.Proofs.Ytcgkfbjdlhapkaa
open Go.RowKit

theorem mems_bits11 : ∀ L : Fin 32, ∀ y ∈ mems ((L.val : Nat) : Int), 0 ≤ y ∧ y < 5 ∧ bitB L.val y.toNat = true := by decide +kernel
theorem bits_mems11 : ∀ (L : Fin 32) (j : Fin 5), bitB L.val j.val = true → ((j.val : Nat) : Int) ∈ mems ((L.val : Nat) : Int) := by decide +kernel
theorem wf_small11 (X : Nat) (h : X < 32) : (Lit.int .i64 (X : Int)).wf = true := by
  have k1 : ∀ X : Fin 32, (Lit.int .i64 ((X.val : Nat) : Int)).wf = true := by decide +kernel
  exact k1 ⟨X, h⟩
/-- Columns taken away one after the other. -/
def redK (l : List (Int × Int)) (R X : Nat) (ms : List Int) : Nat → Nat
  | 0 => X
  | k + 1 => if bitB (clo l (clrN (redK l R X ms k) (ms.getD k 0).toNat)) R = true then clrN (redK l R X ms k) (ms.getD k 0).toNat else redK l R X ms k
theorem clrN_other : ∀ (x : Fin 32) (i j : Fin 5), i ≠ j → bitB (clrN x.val i.val) j.val = bitB x.val j.val := by decide +kernel
theorem redN_high (l : List (Int × Int)) (R : Nat) {X : Nat} (hX : X < 32) : ∀ i, i ≤ 5 → redN l R X i < 32 ∧ ∀ j, i ≤ j → j < 5 → bitB (redN l R X i) j = bitB X j
  | 0, _ => ⟨hX, fun _ _ _ => rfl⟩
  | i + 1, hi => by
    obtain ⟨h1, h2⟩ := redN_high l R hX i (by omega)
    have e : redN l R X (i + 1) = redAt l R (redN l R X i) i := rfl
    have hf := clrN_fin ⟨redN l R X i, h1⟩ ⟨i, by omega⟩
    have ho := fun j (hj : j < 5) (hne : i ≠ j) => clrN_other ⟨redN l R X i, h1⟩ ⟨i, by omega⟩ ⟨j, hj⟩ (fun h => hne (Fin.mk.inj h))
    simp only at hf ho
    rw [e]
    unfold redAt
    split
    · split
      · exact ⟨hf.2.1, fun j j1 j2 => by rw [ho j j2 (by omega)]; exact h2 j (by omega) j2⟩
      · exact ⟨h1, fun j j1 j2 => h2 j (by omega) j2⟩
    · exact ⟨h1, fun j j1 j2 => h2 j (by omega) j2⟩
theorem redK_pre (l : List (Int × Int)) (R X : Nat) (ms : List Int) (y : Int) : ∀ k, k ≤ ms.length → redK l R X (ms ++ [y]) k = redK l R X ms k
  | 0, _ => rfl
  | k + 1, hk => by
    have ih := redK_pre l R X ms y k (by omega)
    have e : (ms ++ [y]).getD k 0 = ms.getD k 0 := by
      rw [List.getD_eq_getElem?_getD, List.getD_eq_getElem?_getD, List.getElem?_append_left (by omega)]
    unfold redK
    rw [ih, e]
theorem redK_memN (l : List (Int × Int)) (R : Nat) {X : Nat} (hX : X < 32) : ∀ i, i ≤ 5 → redK l R X (memN X i) (memN X i).length = redN l R X i
  | 0, _ => rfl
  | i + 1, hi => by
    have ih := redK_memN l R hX i (by omega)
    obtain ⟨h1, h2⟩ := redN_high l R hX i (by omega)
    have hb := h2 i (Nat.le_refl _) (by omega)
    have e : redN l R X (i + 1) = redAt l R (redN l R X i) i := rfl
    rw [e, memN_succ]
    unfold redAt
    rw [hb]
    by_cases hbi : bitB X i = true
    · rw [if_pos hbi, if_pos hbi, List.length_append, List.length_singleton]
      have e2 : (memN X i ++ [(i : Int)]).getD (memN X i).length 0 = (i : Int) := by
        rw [List.getD_eq_getElem?_getD, List.getElem?_append_right (Nat.le_refl _)]; simp
      have e3 := redK_pre l R X (memN X i) (i : Int) (memN X i).length (Nat.le_refl _)
      have e4 : redK l R X (memN X i ++ [(i : Int)]) ((memN X i).length + 1) = if bitB (clo l (clrN (redK l R X (memN X i ++ [(i : Int)]) (memN X i).length) ((memN X i ++ [(i : Int)]).getD (memN X i).length 0).toNat)) R = true then clrN (redK l R X (memN X i ++ [(i : Int)]) (memN X i).length) ((memN X i ++ [(i : Int)]).getD (memN X i).length 0).toNat else redK l R X (memN X i ++ [(i : Int)]) (memN X i).length := rfl
      rw [e4, e2, e3, ih]
      rfl
    · rw [if_neg hbi, if_neg hbi]
      exact ih
theorem redK_mems (l : List (Int × Int)) (R : Nat) {X : Nat} (hX : X < 32) : redK l R X (mems (X : Int)) (mems (X : Int)).length = redN l R X 5 := by
  have e : mems (X : Int) = memN X 5 := by unfold mems; rw [if_pos (by omega)]; rfl
  rw [e]
  exact redK_memN l R hX 5 (Nat.le_refl _)
theorem redK_low {C : Nat} (hC : C ≤ 5) (l : List (Int × Int)) (R : Nat) {X : Nat} (hX : X < 2 ^ C) {ms : List Int} (hm : ∀ y ∈ ms, 0 ≤ y ∧ y < 5) : ∀ k, k ≤ ms.length → redK l R X ms k < 2 ^ C
  | 0, _ => hX
  | k + 1, hk => by
    have ih := redK_low hC l R hX hm k (by omega)
    have h32 := two5 hC
    obtain ⟨y0, y5⟩ := hm (ms.getD k 0) (by rw [List.getD_eq_getElem?_getD, List.getElem?_eq_getElem (show k < ms.length by omega)]; exact List.getElem_mem _)
    have hf := clrN_low ⟨C, by omega⟩ ⟨redK l R X ms k, by omega⟩ ⟨(ms.getD k 0).toNat, by omega⟩ ih
    unfold redK
    split
    · exact hf
    · exact ih
/-- A dependency of the columns, without one of them. -/
theorem dep_of {C x R : Nat} (h1 : 1 ≤ C) (hC : C ≤ 5) (hx : x < 2 ^ C) (hR : R < C) : depB (C : Int) (x : Int) (R : Int) = true := by
  refine depB_iff.2 ⟨⟨by omega, by omega⟩, ?_, by omega, by omega⟩
  unfold isA
  rw [decide_eq_true_iff]
  have hz2 : ((2 ^ C : Nat) : Int) = (2 : Int) ^ C := by rw [Int.natCast_pow]; rfl
  rw [show ((C : Int)).toNat = C from rfl]
  omega
theorem imp_at {C : Nat} {l : List (Int × Int)} (ha : arD (C : Int) l = true) (h1 : 1 ≤ C) (hC : C ≤ 5) {x R : Nat} (hx : x < 2 ^ C) (hR : R < C) : impB (C : Int) l ((x : Int), (R : Int)) = bitB (clo l x) R := by
  unfold impB
  rw [ha, dep_of h1 hC hx hR]
  rfl
theorem imp_clr {C : Nat} {l : List (Int × Int)} (ha : arD (C : Int) l = true) (h1 : 1 ≤ C) (hC : C ≤ 5) {x j R : Nat} (hx : x < 2 ^ C) (hj : j < 5) (hR : R < C) : impB (C : Int) l (((clrN x j : Nat) : Int), (R : Int)) = bitB (clo l (clrN x j)) R := by
  have h32 := two5 hC
  exact imp_at ha h1 hC (clrN_low ⟨C, by omega⟩ ⟨x, by omega⟩ ⟨j, hj⟩ hx) hR

/-- A part of a list of dependencies: a whole one by its number, or a column of Left of one. -/
inductive Prt where
  | whole (i : Nat)
  | left (L R y : Int)
def prtAt (l : List (Int × Int)) (i : Nat) : List Prt := .whole i :: (mems (l.getD i (0, 0)).1).map (fun y => .left (l.getD i (0, 0)).1 (l.getD i (0, 0)).2 y)
def prtTo (l : List (Int × Int)) : Nat → List Prt
  | 0 => []
  | i + 1 => prtTo l i ++ prtAt l i
def spB (n : Int) (l : List (Int × Int)) : Prt → Bool
  | .whole i => impB n (l.eraseIdx i) (l.getD i (0, 0))
  | .left L R y => impB n l (((clrN L.toNat y.toNat : Nat) : Int), R)
theorem prtTo_len (l : List (Int × Int)) : ∀ i, (prtTo l i).length ≤ i * 6
  | 0 => Nat.le_refl _
  | i + 1 => by
    have ih := prtTo_len l i
    have h := mems_len (l.getD i (0, 0)).1
    unfold prtTo prtAt
    rw [List.length_append, List.length_cons, List.length_map]
    omega
theorem prtTo_any {p : Prt → Bool} {l : List (Int × Int)} : ∀ i, (prtTo l i).any p = (List.range i).any (fun j => (prtAt l j).any p)
  | 0 => rfl
  | i + 1 => by
    have ih := prtTo_any (p := p) (l := l) i
    unfold prtTo
    rw [List.any_append, ih, List.range_succ, List.any_append]
    simp
theorem ic_spare {C : Nat} {l : List (Int × Int)} (h1 : 1 ≤ C) (hC : C ≤ 5) (ha : arD (C : Int) l = true) (hl : DepsN C l) {i : Nat} (hi : i < l.length) : icAt (C : Int) l i = !(prtAt l i).any (spB (C : Int) l) := by
  obtain ⟨L, R, e, hLC, hL, hR, hb, hrd⟩ := red_of hC ha hl hi
  unfold icAt prtAt
  rw [hrd, e, List.any_cons]
  have e0 : spB (C : Int) l (.whole i) = impB (C : Int) (l.eraseIdx i) ((L : Int), (R : Int)) := by
    show impB (C : Int) (l.eraseIdx i) (l.getD i (0, 0)) = _
    rw [e]
  rw [e0, Bool.not_or]
  congr 1
  rw [Bool.eq_iff_iff, decide_eq_true_iff, Bool.not_eq_true', List.any_map]
  have hat : ∀ y ∈ mems (L : Int), (spB (C : Int) l ∘ fun y => Prt.left (L : Int) (R : Int) y) y = bitB (clo l (clrN L y.toNat)) R := by
    intro y hy
    obtain ⟨y0, y5, -⟩ := mems_bits11 ⟨L, hL⟩ y hy
    exact imp_clr ha h1 hC hLC (by omega) hR
  have hany : (mems (L : Int)).any (spB (C : Int) l ∘ fun y => Prt.left (L : Int) (R : Int) y) = false ↔ ∀ j, j < 5 → bitB L j = true → bitB (clo l (clrN L j)) R = false := by
    rw [List.any_eq_false]
    constructor
    · intro h j hj hbj
      have hm := bits_mems11 ⟨L, hL⟩ ⟨j, hj⟩ hbj
      have h2 := h _ hm
      rw [hat _ hm] at h2
      simpa using h2
    · intro h y hy
      obtain ⟨y0, y5, yb⟩ := mems_bits11 ⟨L, hL⟩ y hy
      rw [hat _ hy, h y.toNat (by omega) yb]
      decide
  show (((redN l R L 5 : Nat) : Int), (R : Int)) = ((L : Int), (R : Int)) ↔ _
  rw [hany]
  constructor
  · intro h j hj hbj
    have h2 : redN l R L 5 = L := by have := (Prod.mk.inj h).1; omega
    have h3 := (redN_facts hC hl hL (show R < 5 by omega) 5 (Nat.le_refl _)).2.2.2.1 j hj
    rw [h2] at h3
    exact h3 hbj
  · intro h
    rw [redN_stay h 5 (Nat.le_refl _)]
theorem cover_spare {n : Int} {l : List (Int × Int)} (ha : arD n l = true) : icB n l = !(prtTo l l.length).any (spB n l) := by
  obtain ⟨C, rfl, h1, hC, -, hl⟩ := arD_n ha
  unfold icB
  rw [ha, Bool.true_and, prtTo_any]
  · rw [Bool.eq_iff_iff, List.all_eq_true, Bool.not_eq_true', List.any_eq_false]
    constructor
    · intro h j hj
      have := h j hj
      rw [ic_spare h1 hC ha hl (List.mem_range.1 hj)] at this
      simpa using this
    · intro h j hj
      have := h j hj
      rw [ic_spare h1 hC ha hl (List.mem_range.1 hj)]
      simpa using this

/-- Among the sets that pass there is a least one within each. -/
theorem min_ex {P : Nat → Prop} : ∀ x, x < 32 → P x → ∃ y, y < 32 ∧ y ≤ x ∧ subN y x = true ∧ P y ∧ ∀ z, z < 32 → P z → subN z y = true → z = y := by
  intro x
  induction x using Nat.strongRecOn with
  | ind x ih =>
    intro hx hp
    by_cases h : ∃ z, z < 32 ∧ P z ∧ subN z x = true ∧ z ≠ x
    · obtain ⟨z, z1, z2, z3, z4⟩ := h
      have hle : z ≤ x := by
        unfold subN at z3
        rw [beq_iff_eq] at z3
        have := Nat.and_le_right (n := z) (m := x)
        omega
      obtain ⟨y, y1, y2, y3, y4⟩ := ih z (by omega) z1 z2
      exact ⟨y, y1, by omega, subN_trans y3 z3, y4⟩
    · exact ⟨x, hx, Nat.le_refl _, subN_refl _, hp, fun z z1 z2 z3 => Classical.byContradiction fun hne => h ⟨z, z1, z2, z3, hne⟩⟩
section
variable {C : Nat} {l : List (Int × Int)} {T : Nat}
/-- Whether a set without a column is in the set and implies it. -/
def gp (l : List (Int × Int)) (n : Int) (T : Nat) (d : Int × Int) : Bool := subN d.1.toNat T && (bitB T d.2.toNat && impB n l d)
def gF (l : List (Int × Int)) (C T r : Nat) : List Int := fltTo (fun S => !bitB S.toNat r && gp l (C : Int) T (S, (r : Int))) (parts (C : Int)) (parts (C : Int)).length
theorem gF_mem (hC : C ≤ 5) (r z : Nat) : (z : Int) ∈ gF l C T r ↔ z < 2 ^ C ∧ (!bitB z r && gp l (C : Int) T ((z : Int), (r : Int))) = true := by
  unfold gF
  rw [fltTo_mem]
  constructor
  · rintro ⟨t, t1, t2, t3⟩
    obtain ⟨z', z1, z2⟩ := (parts_mem hC _).1 (mem_getD.2 ⟨t, t1, t3⟩)
    obtain rfl : z = z' := by omega
    rw [← t3] at t2
    exact ⟨z1, t2⟩
  · rintro ⟨z1, z2⟩
    obtain ⟨t, t1, t2⟩ := mem_getD.1 ((parts_mem hC (z : Int)).2 ⟨z, z1, rfl⟩)
    exact ⟨t, t1, by rw [← t2]; exact z2, t2⟩
theorem pj_at (h1 : 1 ≤ C) (hC : C ≤ 5) (ha : arD (C : Int) l = true) {r : Nat} (hr : r < C) (hb : bitB T r = true) {z : Nat} (hz : z < 2 ^ C) : (!bitB z r && gp l (C : Int) T ((z : Int), (r : Int))) = (subN z T && (!bitB z r && bitB (clo l z) r)) := by
  unfold gp
  rw [imp_at ha h1 hC hz hr]
  show (!bitB z r && (subN z T && (bitB T r && _))) = _
  rw [hb]
  cases bitB z r <;> cases subN z T <;> rfl
theorem pjIn_min (h1 : 1 ≤ C) (hC : C ≤ 5) (ha : arD (C : Int) l = true) {r : Nat} (hr : r < C) (hb : bitB T r = true) {q : List (Int × Int)} (hq : ∀ d ∈ q, d.2 ≠ (r : Int)) :
    ∀ k, k ≤ (parts (C : Int)).length → pjIn l T r (parts (C : Int)) q k = q ++ (((parts (C : Int)).take k).filter (fun S => decide (S ∈ minS (gF l C T r)))).map (fun S => (S, (r : Int)))
  | 0, _ => by simp [pjIn]
  | k + 1, hk => by
    have ih := pjIn_min h1 hC ha hr hb hq k (by omega)
    have h32 := two5 hC
    have hpl := parts_len32 hC
    have e := filter_next (fun S => decide (S ∈ minS (gF l C T r))) (parts (C : Int)) 0 k (by omega)
    obtain ⟨f1, f2⟩ := flt_small hC (fun S => !bitB S.toNat r && gp l (C : Int) T (S, (r : Int)))
    have f1 : setsOk (gF l C T r) = true := f1
    have f2 : ∀ y ∈ gF l C T r, ∃ x : Nat, x < 32 ∧ y = (x : Int) := f2
    obtain ⟨x, hx, ex⟩ := (parts_mem hC _).1 (mem_getD.2 ⟨k, by omega, rfl⟩ : (parts (C : Int)).getD k 0 ∈ parts (C : Int))
    have hcv : cvd (pjIn l T r (parts (C : Int)) q k) ((x : Int), (r : Int)) = true ↔ ∃ y : Nat, y < 2 ^ C ∧ y ≠ x ∧ subN y x = true ∧ (y : Int) ∈ minS (gF l C T r) := by
      rw [cvd_iff, ih]
      constructor
      · rintro ⟨d, hd, d1, d2⟩
        rcases List.mem_append.1 hd with h | h
        · exact absurd d1 (hq d h)
        · rw [List.mem_map] at h
          obtain ⟨S, hS, rfl⟩ := h
          rw [List.mem_filter, decide_eq_true_iff] at hS
          obtain ⟨j, hj, ej⟩ := mem_getD.1 hS.1
          rw [List.length_take] at hj
          have hjk : j < k := by omega
          have ej2 : S = (parts (C : Int)).getD j 0 := by
            rw [ej, List.getD_eq_getElem?_getD, List.getD_eq_getElem?_getD, List.getElem?_take_of_lt hjk]
          obtain ⟨y, hy, ey⟩ := (parts_mem hC _).1 (mem_getD.2 ⟨j, by omega, rfl⟩ : (parts (C : Int)).getD j 0 ∈ parts (C : Int))
          rw [ey] at ej2
          subst ej2
          refine ⟨y, hy, fun hyx => ?_, ?_, hS.2⟩
          · subst hyx
            have o := parts_order ⟨C, by omega⟩ ⟨k, by omega⟩ ⟨j, by omega⟩ (show k < (parts (C : Int)).length by omega) (show j < (parts (C : Int)).length by omega)
            simp only at o
            rw [ex, ey] at o
            have := o (subN_refl _)
            omega
          · have d2' : bits .and .i64 (y : Int) (x : Int) = (y : Int) := d2
            rw [← and_sub y x (by omega) (by omega), beq_iff_eq]
            exact d2'
      · rintro ⟨y, hy, hne, hs, hmin⟩
        obtain ⟨j, hj, ej⟩ := mem_getD.1 ((parts_mem hC (y : Int)).2 ⟨y, hy, rfl⟩)
        have o := parts_order ⟨C, by omega⟩ ⟨j, by omega⟩ ⟨k, by omega⟩ hj (show k < (parts (C : Int)).length by omega)
        simp only at o
        rw [← ej, ex] at o
        have hjk := o hs
        have hjne : j ≠ k := fun e2 => by
          subst e2
          rw [← ej] at ex
          omega
        refine ⟨((y : Int), (r : Int)), List.mem_append.2 (.inr (List.mem_map.2 ⟨(y : Int), ?_, rfl⟩)), rfl, ?_⟩
        · rw [List.mem_filter]
          refine ⟨mem_getD.2 ⟨j, ?_, ?_⟩, decide_eq_true hmin⟩
          · rw [List.length_take]; omega
          · rw [List.getD_eq_getElem?_getD, List.getElem?_take_of_lt (show j < k by omega), ← List.getD_eq_getElem?_getD]
            exact ej
        · have := and_sub y x (by omega) (by omega)
          rw [hs, beq_iff_eq] at this
          exact this
    have hmm := minS_mem f1 f2 x
    have key : pjAt l T r x (pjIn l T r (parts (C : Int)) q k) = decide ((x : Int) ∈ minS (gF l C T r)) := by
      rw [Bool.eq_iff_iff, decide_eq_true_iff, hmm, gF_mem hC, pj_at h1 hC ha hr hb hx]
      unfold pjAt
      cases hcb : cvd (pjIn l T r (parts (C : Int)) q k) ((x : Int), (r : Int)) with
      | true =>
        obtain ⟨y, y1, y2, y3, y4⟩ := hcv.1 hcb
        constructor
        · intro h
          simp at h
        · rintro ⟨-, h⟩
          exact absurd (h y ((minS_mem f1 f2 y).1 y4).1 y3) y2
      | false =>
        constructor
        · intro h
          simp only [Bool.not_false, Bool.and_true, Bool.and_eq_true] at h
          refine ⟨⟨hx, by rw [Bool.and_eq_true, Bool.and_eq_true]; exact h⟩, fun z hz hs => Classical.byContradiction fun hne => ?_⟩
          obtain ⟨z1, z2⟩ := (gF_mem hC r z).1 hz
          obtain ⟨y, y1, y2, y3, y4, y5⟩ := min_ex (P := fun z => (z : Int) ∈ gF l C T r) z (by omega) hz
          have hyx : y ≠ x := fun e2 => by
            subst e2
            exact hne (subN_anti' hs y3)
          have : cvd (pjIn l T r (parts (C : Int)) q k) ((x : Int), (r : Int)) = true :=
            hcv.2 ⟨y, ((gF_mem hC r y).1 y4).1, hyx, subN_trans y3 hs, (minS_mem f1 f2 y).2 ⟨y4, fun z' hz' hs' => y5 z' (by have := ((gF_mem hC r z').1 hz').1; omega) hz' hs'⟩⟩
          rw [hcb] at this
          cases this
        · rintro ⟨⟨-, h⟩, -⟩
          simp only [Bool.not_false, Bool.and_true]
          exact h
    have e3 : pjIn l T r (parts (C : Int)) q (k + 1) = if pjAt l T r ((parts (C : Int)).getD k 0).toNat (pjIn l T r (parts (C : Int)) q k) = true then pjIn l T r (parts (C : Int)) q k ++ [((parts (C : Int)).getD k 0, (r : Int))] else pjIn l T r (parts (C : Int)) q k := rfl
    rw [e3, ex, show ((x : Int)).toNat = x from rfl, key]
    rw [ex] at e
    by_cases hm : (x : Int) ∈ minS (gF l C T r)
    · rw [if_pos (decide_eq_true hm)] at e
      rw [if_pos (decide_eq_true hm), e, ih, List.map_append, ← List.append_assoc]; rfl
    · rw [if_neg (by simpa using hm)] at e
      rw [if_neg (by simpa using hm), e, ih]
theorem pj_min (h1 : 1 ≤ C) (hC : C ≤ 5) (ha : arD (C : Int) l = true) : ∀ r, r ≤ C → pjOut l T (parts (C : Int)) r = mdOut (fun S r => decide (S ∈ minS (gF l C T r))) (parts (C : Int)) r
  | 0, _ => rfl
  | r + 1, hr => by
    have ih := pj_min h1 hC ha r (by omega)
    have e : pjOut l T (parts (C : Int)) (r + 1) = if bitB T r = true then pjIn l T r (parts (C : Int)) (pjOut l T (parts (C : Int)) r) (parts (C : Int)).length else pjOut l T (parts (C : Int)) r := rfl
    rw [e, mdOut_succ]
    cases hb : bitB T r with
    | true =>
      have hq : ∀ d ∈ pjOut l T (parts (C : Int)) r, d.2 ≠ (r : Int) := by
        intro d hd
        obtain ⟨x, R, -, hR, rfl, -⟩ := pjOut_mem (fun y hy => by
          obtain ⟨X, e, hX⟩ := parts_small _ y hy
          exact ⟨X, e, hX⟩) _ d hd
        show (R : Int) ≠ (r : Int)
        omega
      rw [if_pos rfl, pjIn_min h1 hC ha (by omega) hb hq _ (Nat.le_refl _), List.take_length, ih]
    | false =>
      rw [if_neg (by decide), ih]
      have hno : ∀ S, S ∉ gF l C T r := by
        intro S hS
        unfold gF at hS
        rw [fltTo_mem] at hS
        obtain ⟨t, -, t2, -⟩ := hS
        unfold gp at t2
        rw [show ((((parts (C : Int)).getD t 0, (r : Int)) : Int × Int).2).toNat = r from rfl, hb] at t2
        simp at t2
      have hmn : (parts (C : Int)).filter (fun S => decide (S ∈ minS (gF l C T r))) = [] := by
        rw [List.filter_eq_nil_iff]
        intro S hS h
        rw [decide_eq_true_iff] at h
        obtain ⟨x, hx, rfl⟩ := (parts_mem hC S).1 hS
        obtain ⟨f1, f2⟩ := flt_small hC (fun S => !bitB S.toNat r && gp l (C : Int) T (S, (r : Int)))
        exact hno _ ((minS_mem (l := gF l C T r) f1 f2 x).1 h).1
      rw [hmn]
      simp
theorem pj_unc (h1 : 1 ≤ C) (hC : C ≤ 5) (ha : arD (C : Int) l = true) : uncL ((candL C).filter (gp l (C : Int) T)) = pjOut l T (parts (C : Int)) C := by
  rw [unc_low hC, pj_min h1 hC ha C (Nat.le_refl _)]
  rfl
end
end Go.Proofs.Ytcgkfbjdlhapkaa
namespace Go.Proofs.Ytcgkfbjdlhapkaa
open Go.RowKit

set_option maxHeartbeats 800000 in
theorem members_any (X : Nat) (hX : X < 32) (w : World) :
    Calls Try.prog 137 #[.int .i64 (X : Int)] w (RetI (mems (X : Int)) w) := by
  obtain ⟨i0, hi, hz0, hz1, hz2⟩ := info_parts info3i
  have HI : Hid (_ ∧ _ ∧ _ ∧ _) := Lib.hid ⟨hi, hz0, hz1, hz2⟩
  clear hi hz0 hz1 hz2
  have he : mems (X : Int) = memN X 5 := by unfold mems; rw [if_pos (by omega)]; rfl
  have HE := Lib.hid he
  clear he
  have HH := Lib.hid (fun (k : Nat) (hk : k ≤ 62) (w : World) => has_any X k hk w)
  go_enter Try.func137, Try.ntmps137
  go_wp2_with (at_make; refine wpList_make_own _ rfl _ _ 24 rfl w.heap.size 3 i0 (.int .i64 0) 1 Try.underlying24 HI.out.1 HI.out.2.1 HI.out.2.2.1 .i64 .i64 _ 5 rfl rfl (by omega) (by rw [HI.out.2.2.2]; omega) (by unfold maxLen; omega) (Nat.le_refl _) ?_; intro w0 hown0 hgrow0)
  have hb0 := (Below.refl w.heap.size w).grown hgrow0 (Nat.le_refl _) (by simp)
  have hown := OwnI.made hown0
  clear hown0 hgrow0
  go_loopw [3, 4] (fun ov iv wr => ∃ (k : Nat) (l : List Int), k ≤ 5 ∧ iv = .int .i64 (k : Int) ∧ Hid (l = memN X k) ∧ OwnI wr w.heap.size ov l ∧ Below w.heap.size w wr) (fun _ iv _ => (5 - intOf iv).toNat)
  case atStart => exact ⟨0, [], by omega, rfl, Lib.hid rfl, hown, hb0⟩
  case round =>
    obtain ⟨k, l, hk, rfl, hl, ho, hb⟩ := hrel
    by_cases hlt : k < 5
    · have hll : l.length ≤ 5 := by rw [hl.out]; have := memN_len X k; omega
      by_cases hB : bitB X k = true
      · go_wp2_with fail
        refine (HH.out k (by omega) _).mono ?_
        rintro e w' ⟨rfl, rfl⟩
        go_wp2_with (at_builtin; refine wpList_append_own _ rfl _ _ 24 rfl w.heap.size 3 i0 (.int .i64 0) 1 8 Try.underlying24 HI.out.1 HI.out.2.1 HI.out.2.2.1 HI.out.2.2.2 rfl (by decide) _ _ _ rfl (World.ownsRow.alloc ho _) ⟨wr.heap.size, 0, none⟩ 1 1 [.int .i64 (k : Int)] rfl rfl (cell_one_new _ _ _) (one_i64 _) (by unfold maxLen; omega) (by omega) (le_alloc hb (Nat.le_refl _) _) ?_; intro v' w1 hown' hgrow _)
        have ho' := OwnI.snoc hown'
        have hb' := (hb.alloc hb.size (.cells #[.int .i64 (k : Int)] 3)).grown hgrow (by simp; have := hb.size; omega) (fun k hk => (OwnI.lt ho k hk).1)
        clear hown' hgrow
        go_wp2_with fail
        go_roundw
        case rel => exact ⟨k + 1, _, by omega, by go_num, Lib.hid (by rw [memN_succ, if_pos hB, ← hl.out]), ho', hb'⟩
        case measure => simp [intOf]; omega
      · have hB2 : bitB X k = false := by simpa using hB
        go_wp2_with fail
        refine (HH.out k (by omega) _).mono ?_
        rintro e w' ⟨rfl, rfl⟩
        go_wp2_with fail
        go_roundw
        case rel => exact ⟨k + 1, _, by omega, by go_num, Lib.hid (by rw [memN_succ, if_neg hB, ← hl.out]), ho, hb⟩
        case measure => simp [intOf]; omega
    · obtain rfl : k = 5 := by omega
      go_wp2_with fail
      go_ret
      exact ⟨_, rfl, by rw [HE.out, ← hl.out]; exact ho, hb⟩
theorem OwnI.none (w : World) (B : Nat) : OwnI w B (.slice .none 0 0) [] := World.ownsRow_nil _ _ _ _
set_option maxHeartbeats 1600000 in
theorem implParts_any (n : Int) (w : World) :
    Calls Try.prog 86 #[.int .i64 n] w (RetI (parts n) w) := by
  obtain ⟨i0, hi, hz0, hz1, hz2⟩ := info_parts info3i
  have HI : Hid (_ ∧ _ ∧ _ ∧ _) := Lib.hid ⟨hi, hz0, hz1, hz2⟩
  clear hi hz0 hz1 hz2
  by_cases hn : 0 ≤ n ∧ n ≤ 5
  · obtain ⟨N, rfl⟩ : ∃ N : Nat, n = (N : Int) := ⟨n.toNat, by omega⟩
    have hN : N ≤ 5 := by omega
    have h1 : decide (0 ≤ (N : Int) ∧ (N : Int) ≤ 5) = true := by simp; omega
    have HE : Hid (parts (N : Int) = bySize N (N + 1)) := Lib.hid (by unfold parts; rw [if_pos hn]; rfl)
    obtain ⟨M, hM, hM31⟩ : ∃ M : Nat, M + 1 = 2 ^ N ∧ M ≤ 31 := by
      have : 2 ^ N ≤ 2 ^ 5 := Nat.pow_le_pow_right (by omega) hN
      have : 0 < 2 ^ N := Nat.pow_pos (by omega)
      exact ⟨2 ^ N - 1, by omega, by omega⟩
    have HM := Lib.hid hM
    have HA : Hid (∀ w, Calls Try.prog 43 #[.int .i64 (N : Int)] w fun e w' => e = .returned (.int .i64 (M : Int)) ∧ w = w') :=
      Lib.hid fun w => (first_any (N : Int) w hn.1 hn.2).mono fun _ _ ⟨a, b⟩ => ⟨by
        rw [a, show (N : Int).toNat = N from rfl, show ((2 : Int) ^ N - 1) = (M : Int) by
          have h3 : ((2 ^ N : Nat) : Int) = (2 : Int) ^ N := by rw [Int.natCast_pow]; rfl
          omega], b⟩
    have HIN : Hid (∀ w, Calls Try.prog 81 #[.int .i64 (N : Int)] w fun e w' => e = .returned (.bool true) ∧ w = w') := Lib.hid fun w => (colCount_any (N : Int) w).mono fun _ _ ⟨a, b⟩ => ⟨by rw [a, h1], b⟩
    have HS : Hid (∀ X : Nat, X ≤ M → ∀ w, _) := Lib.hid fun X hX w => size_any X (by omega) w
    clear hM hn h1
    go_enter Try.func86, Try.ntmps86
    go_wp2_with fail
    refine (HIN.out _).mono ?_
    rintro e w' ⟨rfl, rfl⟩
    go_wp2_with fail
    refine (HA.out _).mono ?_
    rintro e w' ⟨rfl, rfl⟩
    go_wp2_with (at_make; refine wpList_make_own _ rfl _ _ 24 rfl w.heap.size 3 i0 (.int .i64 0) 1 Try.underlying24 HI.out.1 HI.out.2.1 HI.out.2.2.1 .i64 .i64 _ (M + 1) rfl rfl (by omega) (by rw [HI.out.2.2.2]; omega) (by unfold maxLen; omega) (Nat.le_refl _) ?_; intro w0 hown0 hgrow0)
    have hb0 := (Below.refl w.heap.size w).grown hgrow0 (Nat.le_refl _) (by simp)
    have hown := OwnI.made hown0
    clear hown0 hgrow0
    go_loopw [4, 5] (fun ov sv wr => ∃ (s : Nat) (l : List Int), s ≤ N + 1 ∧ sv = .int .i64 (s : Int) ∧ Hid (l = bySize N s) ∧ OwnI wr w.heap.size ov l ∧ Below w.heap.size w wr) (fun _ sv _ => (N + 1 - intOf sv).toNat)
    case atStart => exact ⟨0, [], by omega, rfl, Lib.hid rfl, hown, hb0⟩
    case round =>
      obtain ⟨s, l, hs, rfl, hl, ho, hb⟩ := hrel
      by_cases hlt : s ≤ N
      · go_wp2_with fail
        obtain ⟨wo, rfl⟩ : ∃ wo : World, wo = wr := ⟨_, rfl⟩
        go_loopw [4, 6] (fun ov xv wr => ∃ (x : Nat) (l2 : List Int), x ≤ M + 1 ∧ xv = .int .i64 (x : Int) ∧ Hid (l2 = l ++ ofSize s x) ∧ OwnI wr w.heap.size ov l2 ∧ Below w.heap.size w wr) (fun _ xv _ => (M + 1 - intOf xv).toNat)
        case atStart => exact ⟨0, l, by omega, rfl, Lib.hid (by simp [ofSize]), ho, hb⟩
        case round =>
          clear ho hb
          obtain ⟨x, l2, hx, rfl, hl2, ho, hb⟩ := hrel
          have hll : l2.length ≤ 1000 := by
            rw [hl2.out, List.length_append, hl.out]
            have a1 := bySize_len N s
            have a2 := ofSize_len s x
            have a3 : s * 2 ^ N ≤ 5 * 32 := Nat.mul_le_mul (by omega) (by have := HM.out; omega)
            omega
          by_cases hxm : x ≤ M
          · by_cases hc : cnt (x : Int) = s
            · have heq : ((cnt (x : Int) : Int) == (s : Int)) = true := by simp [hc]
              have HCN := Lib.hid hc
              clear hc
              go_wp2_with fail
              refine (HS.out x hxm _).mono ?_
              rintro e w' ⟨rfl, rfl⟩
              go_wp2_with (at_builtin; refine wpList_append_own _ rfl _ _ 24 rfl w.heap.size 3 i0 (.int .i64 0) 1 8 Try.underlying24 HI.out.1 HI.out.2.1 HI.out.2.2.1 HI.out.2.2.2 rfl (by decide) _ _ _ rfl (World.ownsRow.alloc ho _) ⟨wr.heap.size, 0, none⟩ 1 1 [.int .i64 (x : Int)] rfl rfl (cell_one_new _ _ _) (one_i64 _) (by unfold maxLen; omega) (by omega) (le_alloc hb (Nat.le_refl _) _) ?_; intro v' w2 hown' hgrow _)
              have ho' := OwnI.snoc hown'
              have hb' := (hb.alloc hb.size (.cells #[.int .i64 (x : Int)] 3)).grown hgrow (by simp; have := hb.size; omega) (fun k hk => (OwnI.lt ho k hk).1)
              clear hown' hgrow
              go_wp2_with fail
              go_roundw
              case rel => exact ⟨x + 1, _, by omega, by go_num, Lib.hid (by rw [ofSize_succ, if_pos (by simp [HCN.out]), hl2.out, List.append_assoc]), ho', hb'⟩
              case measure => simp [intOf]; omega
            · have heq : ((cnt (x : Int) : Int) == (s : Int)) = false := by simp; omega
              have HCN := Lib.hid hc
              clear hc
              go_wp2_with fail
              refine (HS.out x hxm _).mono ?_
              rintro e w' ⟨rfl, rfl⟩
              go_wp2_with fail
              go_roundw
              case rel => exact ⟨x + 1, _, by omega, by go_num, Lib.hid (by rw [ofSize_succ, if_neg (by simp [HCN.out]), hl2.out]), ho, hb⟩
              case measure => simp [intOf]; omega
          · obtain rfl : x = M + 1 := by omega
            go_wp2_with fail
            go_roundw
            case rel => exact ⟨s + 1, _, by omega, by go_num, Lib.hid (by rw [bySize_succ, hl2.out, hl.out, HM.out]), ho, hb⟩
            case measure => simp [intOf]; omega
      · obtain rfl : s = N + 1 := by omega
        go_wp2_with fail
        go_ret
        exact ⟨_, rfl, by rw [HE.out, ← hl.out]; exact ho, hb⟩
  · have h1 : decide (0 ≤ n ∧ n ≤ 5) = false := by simp only [hn, decide_false]
    have HE : Hid (parts n = []) := Lib.hid (by unfold parts; rw [if_neg hn])
    have HIN : Hid (∀ w, Calls Try.prog 81 #[.int .i64 n] w fun e w' => e = .returned (.bool false) ∧ w = w') := Lib.hid fun w => (colCount_any n w).mono fun _ _ ⟨a, b⟩ => ⟨by rw [a, h1], b⟩
    clear hn
    go_enter Try.func86, Try.ntmps86
    go_wp2_with fail
    refine (HIN.out _).mono ?_
    rintro e w' ⟨rfl, rfl⟩
    go_wp2_with fail
    go_ret
    exact ⟨_, rfl, by rw [HE.out]; exact OwnI.none _ _, Below.refl _ _⟩
end Go.Proofs.Ytcgkfbjdlhapkaa
namespace Go.Proofs.Ytcgkfbjdlhapkaa
open Go.RowKit

def BxW (w : World) (b : Nat) (x y : Int) : Prop := w.heap[b]? = some (.cells #[.int .i64 x, .int .i64 y] 44 (0, 0))
theorem BxW.c0 {w : World} {b : Nat} {x y : Int} (h : BxW w b x y) : w.cell? ⟨b, 0, none⟩ = some (.int .i64 x) := by rw [cell_of_row w b 0 _ _ _ h]; rfl
theorem BxW.c1 {w : World} {b : Nat} {x y : Int} (h : BxW w b x y) : w.cell? ⟨b, 1, none⟩ = some (.int .i64 y) := by rw [cell_of_row w b 1 _ _ _ h]; rfl
theorem BxW.f0 {w : World} {b : Nat} {x y : Int} (h : BxW w b x y) : w.frozen? ⟨b, 0, none⟩ = false := frozen_of_row w b 0 _ _ h
theorem BxW.f1 {w : World} {b : Nat} {x y : Int} (h : BxW w b x y) : w.frozen? ⟨b, 1, none⟩ = false := frozen_of_row w b 1 _ _ h
theorem BxW.keep {w w' : World} {b : Nat} {x y : Int} (h : BxW w b x y) (hb : Below w.heap.size w w') : BxW w' b x y := (hb.block b (World.block_lt_of_cell? w _ h.c0)).trans h
theorem bxw_new (w : World) (x y : Int) : BxW (w.alloc (.cells #[.int .i64 x, .int .i64 y] 44)) w.heap.size x y := heap_alloc_new w _
theorem BxW.set0 {w : World} {b : Nat} {x y z : Int} (h : BxW w b x y) : BxW (w.setCell ⟨b, 0, none⟩ (.int .i64 z)) b z y := by
  unfold BxW at *
  simp only [World.setCell, Array.getElem?_modify]
  rw [if_pos trivial, h]
  rfl
theorem BxW.set1 {w : World} {b : Nat} {x y z : Int} (h : BxW w b x y) : BxW (w.setCell ⟨b, 1, none⟩ (.int .i64 z)) b x z := by
  unfold BxW at *
  simp only [World.setCell, Array.getElem?_modify]
  rw [if_pos trivial, h]
  rfl
section
set_option maxRecDepth 20000
set_option maxHeartbeats 1600000
theorem without_any (l r : Int) (y : Nat) (hy : y ≤ 62) (w : World) :
    Calls Try.prog 144 #[.agg #[.int .i64 l, .int .i64 r], .int .i64 (y : Int)] w fun e w' => e = .returned (.agg #[.int .i64 (bits .andNot .i64 l (IntKind.i64.wrap (2 ^ y))), .int .i64 r]) ∧ Below w.heap.size w w' := by
  have hb1 := (Below.refl w.heap.size w).alloc (Nat.le_refl _) (.cells #[.int .i64 l, .int .i64 r] 44)
  have hb2 := hb1.alloc hb1.size (.cells #[.int .i64 0, .int .i64 0] 44)
  have hba := (Below.refl (w.alloc (.cells #[.int .i64 l, .int .i64 r] 44)).heap.size _).alloc (Nat.le_refl _) (.cells #[.int .i64 0, .int .i64 0] 44)
  have hx0 := (bxw_new w l r).keep hba
  have hx1 := bxw_new (w.alloc (.cells #[.int .i64 l, .int .i64 r] 44)) 0 0
  rw [World.size_alloc] at hx1
  have HB2 := Lib.hid hb2
  have hy64 : y ≤ 64 := by omega
  clear hb1 hba hb2
  go_enter Try.func144, Try.ntmps144
  go_upto_region 1 with fail
  obtain ⟨W, hW⟩ : ∃ W, W = ((w.alloc (.cells #[.int .i64 l, .int .i64 r] 44)).alloc (.cells #[.int .i64 0, .int .i64 0] 44)) := ⟨_, rfl⟩
  rw [← hW] at hx0 hx1 HB2 ⊢
  clear hW
  have c0 := hx0.c0
  have c1 := hx0.c1
  have d0 := hx1.c0
  have d1 := hx1.c1
  have e0 := hx1.f0
  have e1 := hx1.f1
  have hz : BxW ((W.setCell ⟨w.heap.size + 1, 0, none⟩ (.int .i64 (bits .andNot .i64 l (wrap64 (2 ^ y))))).setCell ⟨w.heap.size + 1, 1, none⟩ (.int .i64 r)).drew (w.heap.size + 1) (bits .andNot .i64 l (wrap64 (2 ^ y))) r := (hx1.set0).set1
  have HR := Lib.hid (And.intro hz.c0 hz.c1)
  have HB3 : Hid (Below w.heap.size w ((W.setCell ⟨w.heap.size + 1, 0, none⟩ (.int .i64 (bits .andNot .i64 l (wrap64 (2 ^ y))))).setCell ⟨w.heap.size + 1, 1, none⟩ (.int .i64 r)).drew) := Lib.hid (((HB2.out.setCell (p := ⟨w.heap.size + 1, 0, none⟩) (by simp) _).setCell (p := ⟨w.heap.size + 1, 1, none⟩) (by simp) _).trans ((Below.refl _ _).drew))
  clear hz
  go_region
  all_goals (go_wp2_with fail)
  all_goals exact bodyPost_ret (v := .agg #[.int .i64 (bits .andNot .i64 l (wrap64 (2 ^ y))), .int .i64 r]) (by simp [results, Try.results144, go_sem, HR.out.1, HR.out.2]) rfl ⟨by rw [IntWalk.i64_left], HB3.out⟩
end
end Go.Proofs.Ytcgkfbjdlhapkaa
namespace Go.Proofs.Ytcgkfbjdlhapkaa
open Go.RowKit

theorem fmtA_empty (x : Int) : (fmtA x).toList.isEmpty = !valB x := by
  rw [ByteArray.toList_eq]
  unfold fmtA valB
  by_cases h : 0 ≤ x ∧ x ≤ 31
  · rw [if_pos h, decide_eq_true h]
    split
    · rfl
    · next hl =>
      cases hq : lets x.toNat 5 with
      | nil => exact absurd hq hl
      | cons a b => rfl
  · rw [if_neg h, decide_eq_false h]; rfl
/-- The text of a dependency, empty if it has none. -/
def fmtD (l r : Int) : ByteArray := if valB l = true ∧ 0 ≤ r ∧ r ≤ 4 then fmtA l ++ ⟨#[62]⟩ ++ fmtA (2 ^ r.toNat : Nat) else ⟨#[]⟩
theorem fmtA_size (x : Int) : (fmtA x).size ≤ 5 := by
  rw [str_size]
  unfold fmtA
  split
  · split
    · decide
    · have := lets_len x.toNat 5; simpa using this
  · decide
end Go.Proofs.Ytcgkfbjdlhapkaa
namespace Go.Proofs.Ytcgkfbjdlhapkaa
open Go.RowKit

theorem info8s : (Try.prog.info? 5).map (fun i => (i.zero, i.size, i.bytes)) = some (some (.int .u8 0), 1, 1) := by kernel_rfl
/-- The letters of columns. -/
def ltr (l : List Int) : List UInt8 := l.map fun i => UInt8.ofNat (65 + i).toNat
theorem ltr_take {l : List Int} {k : Nat} (h : k < l.length) : ltr (l.take (k + 1)) = ltr (l.take k) ++ [UInt8.ofNat (65 + l[k]).toNat] := by
  unfold ltr; rw [List.take_succ_eq_append_getElem h, List.map_append]; rfl
theorem ltr_len (l : List Int) (k : Nat) : (ltr (l.take k)).length ≤ k := by
  unfold ltr; rw [List.length_map]; exact List.length_take_le _ _
theorem ltr_fmt : ∀ X : Fin 32, X.val ≠ 0 → (⟨(ltr (mems ((X.val : Nat) : Int))).toArray⟩ : ByteArray) = fmtA ((X.val : Nat) : Int) := by
  intro X h
  apply str_ext
  revert X
  decide +kernel
theorem own_apart {w : World} {B B' : Nat} {v v' : Value} {l : List UInt8} {l' : List Int} (h : OwnB w B 5 v l) (h' : OwnI w B' v' l') : ∀ g, v.ownBlock = some g → v'.ownBlock ≠ some g := by
  intro g hg hg'
  rcases h.2 with ⟨rfl, _⟩ | ⟨g1, cap, cur, rfl, hB, hgg, rest⟩
  · cases hg
  · rcases h'.2 with ⟨rfl, _⟩ | ⟨g2, cap2, cur2, rfl, hB2, hgg2, rest2⟩
    · cases hg'
    · simp [Value.ownBlock] at hg hg'
      subst hg hg'
      rw [hgg] at hgg2
      simp at hgg2
end Go.Proofs.Ytcgkfbjdlhapkaa
