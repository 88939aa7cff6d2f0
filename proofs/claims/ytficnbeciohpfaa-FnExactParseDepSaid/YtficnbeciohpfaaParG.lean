/- Bounds of partitions and products. Conditions: as stated. -/
import Derived.Test.YtficnbeciohpfaaParE
import Derived.Test.YtficnbeciohpfaaRowsOpen
import Derived.Test.YtficnbeciohpfaaSSLaw
namespace Go.Proofs.Ytficnbeciohpfaa
open Go.RowKit

theorem tot_snoc (ll : List (List Int)) (l : List Int) : tot (ll ++ [l]) = tot ll + l.length := by unfold tot; simp
theorem partP_class {p : List (List Int)} {rows : Int} {i : Nat} (h : partP p rows = true) (hi : i < p.length) : (p.getD i []).length ≤ 40 := by
  obtain ⟨r0, r1⟩ := partP_rows h
  unfold partP at h
  rw [Bool.and_eq_true, List.all_eq_true] at h
  have hc := h.1 i (List.mem_range.mpr hi)
  unfold okC at hc
  rw [Bool.and_eq_true, List.all_eq_true] at hc
  have hR : IntKind.i64.wrap (rows - 1) = rows - 1 := by rw [IntKind.wrap_i64]; omega
  have hx : ∀ k, k < (p.getD i []).length → (k : Int) ≤ (p.getD i []).getD k 0 ∧ (p.getD i []).getD k 0 ≤ rows - 1 := by
    intro k
    induction k with
    | zero =>
      intro hk
      have h0 := hc.2 0 (List.mem_range.mpr hk)
      unfold okX at h0
      simp only [Bool.and_eq_true, decide_eq_true_eq] at h0
      rw [hR] at h0
      exact ⟨by have := h0.1.1.1; omega, h0.1.1.2⟩
    | succ k ih =>
      intro hk
      have h1 := ih (by omega)
      have h0 := hc.2 (k + 1) (List.mem_range.mpr hk)
      unfold okX at h0
      simp only [Bool.and_eq_true, Bool.not_eq_true', Bool.and_eq_false_iff, decide_eq_true_eq, decide_eq_false_iff_not] at h0
      rw [hR, show k + 1 - 1 = k by omega] at h0
      obtain ⟨⟨ha, hb⟩, -⟩ := h0
      rcases hb with hb | hb
      · omega
      · omega
  by_cases h0 : (p.getD i []).length = 0
  · omega
  · have := hx ((p.getD i []).length - 1) (by omega)
    omega
theorem clSt_tot (c : Nat) (ll : List (List Int)) (m s : Int) (h40 : ll.length ≤ 40) : ∀ i, i ≤ ll.length → tot (clSt c ll m s i).1 ≤ 40 * i
  | 0, _ => by simp [clSt, tot]
  | i + 1, hi => by
    have ih := clSt_tot c ll m s h40 i (by omega)
    have h := clsC_len c ll m s i (by omega)
    unfold clSt
    split
    · omega
    · split
      · simp only; rw [tot_snoc]; omega
      · omega
theorem prtS_bd (c : Int) (ll : List (List Int)) (m s : Int) : (prtS c ll m s).length ≤ 40 ∧ tot (prtS c ll m s) ≤ 1600 := by
  unfold prtS
  split
  · rename_i h
    have hT : isT c ll = true := by have := h.1; unfold fineT at this; simp at this; exact this.1
    have h40 := (isT_bd hT).2.2
    have h1 := (clSt_len c.toNat ll m s ll.length (Nat.le_refl _)).1
    have h2 := clSt_tot c.toNat ll m s h40 ll.length (Nat.le_refl _)
    omega
  · simp [tot]
theorem prSt_tot (p q : List (List Int)) (h : ∀ i, i < p.length → (p.getD i []).length ≤ 40) : ∀ i, (prSt p q i).1.length ≤ i ∧ tot (prSt p q i).1 ≤ 40 * i
  | 0 => by simp [prSt, tot]
  | i + 1 => by
    have ih := prSt_tot p q h i
    unfold prSt
    split
    · omega
    · rename_i hn
      have h2 := clsI_ge p (i : Int)
      have h1 := prTo_len p q (clsI p i).toNat (clsI q i).toNat (p.getD (clsI p i).toNat []).length
      rw [prTo_all] at h1
      have h3 := h (clsI p i).toNat (by omega)
      simp only
      split
      · rw [tot_snoc, List.length_append]; simp only [List.length_cons, List.length_nil]; omega
      · omega
theorem proS_bd (p q : List (List Int)) (rows : Int) : (proS p q rows).length ≤ 40 ∧ tot (proS p q rows) ≤ 1600 := by
  unfold proS
  split
  · rename_i h
    rw [Bool.and_eq_true] at h
    have hr := partP_rows h.1
    have := prSt_tot p q (fun i hi => partP_class h.1 hi) rows.toNat
    omega
  · simp [tot]
end Go.Proofs.Ytficnbeciohpfaa
