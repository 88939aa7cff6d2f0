/- Texts of this claim, merged: FnCovA. Conditions: as stated. -/
import Derived.Test.YtlecfkfcjhliiaaGreatWc17
import Derived.Test.YtlecfkfcjhliiaaGreatWc30
import Derived.Test.YtlecfkfcjhliiaaGreatCvDm
import Derived.Test.YtlecfkfcjhliiaaGreatMvDm
import Derived.Test.YtlecfkfcjhliiaaGreatWc29
import Derived.Deep.CutBlock
import Derived.Deep.DeepCutAuto
namespace Go.Proofs.YtlecfkfcjhliiaaGreat
open Go.RowKit

/-- What the program lists as minimal it finds minimal. -/
theorem md_min {c m : Int} {ll : List (List Int)} {d : Int × Int} (h : d ∈ mdL c ll m) : imB c ll m d.1 d.2 = true := by
  unfold mdL at h
  split at h
  · rename_i hf
    have hb := isT_bd (fineT_isT hf)
    obtain ⟨C, rfl⟩ : ∃ C : Nat, c = (C : Int) := ⟨c.toNat, by omega⟩
    have hC : C ≤ 5 := by omega
    obtain ⟨r, r1, S, r2, r3, rfl⟩ := (mdOut_mem _ _ _ _).1 h
    rw [show ((C : Int)).toNat = C from rfl] at r1 r2 r3
    obtain ⟨x, hx, rfl⟩ := (parts_mem hC S).1 r2
    have ho := okD_all (S := x) (R := r) hf (by omega) hC hx r1
    unfold imB
    simp only
    rw [ho, Bool.true_and]
    exact r3
  · cases h
theorem apx_rows {c m rows : Int} {ll : List (List Int)} {d : Int × Int} (h : d ∈ apL c ll m rows) : remD c ll m d.1 d.2 ≤ rows := by
  unfold apL at h
  split at h
  · rename_i hf
    have hb := isT_bd (fineT_isT hf.1)
    obtain ⟨C, rfl⟩ : ∃ C : Nat, c = (C : Int) := ⟨c.toNat, by omega⟩
    exact app_rows (by omega) h
  · cases h
theorem apx_zero (c m : Int) (ll : List (List Int)) : apL c ll m 0 = mdL c ll m := by
  unfold apL mdL
  by_cases hf : fineT c ll m = true
  · have hb := isT_bd (fineT_isT hf)
    obtain ⟨C, rfl⟩ : ∃ C : Nat, c = (C : Int) := ⟨c.toNat, by omega⟩
    rw [if_pos ⟨hf, by omega⟩, if_pos hf]
    exact app_zero hf (by omega) (by omega)
  · rw [if_neg (fun h => hf h.1), if_neg hf]
/-- What the loop over the sets compares. -/
def pIn (VB : List Int) (x : Nat) (i : Nat) : Bool := bits .and .i64 (VB.getD i 0) (x : Int) == (x : Int)
def pCov (MD : List (Int × Int)) (R x : Nat) (i : Nat) : Bool := ((MD.getD i (0, 0)).2 == (R : Int)) && (bits .and .i64 (MD.getD i (0, 0)).1 (x : Int) == (MD.getD i (0, 0)).1)
theorem anyTo_succ (p : Nat → Bool) (k : Nat) : anyTo p (k + 1) = (anyTo p k || p k) := rfl
theorem flags {C R : Nat} {ll : List (List Int)} {m : Int} (hT : isT (C : Int) ll = true) (h0 : 0 ≤ m) (h1 : m ≤ 1) (hR : R < C) {x : Nat} (hx : x < 2 ^ C) (hr : bitB x R = false) :
    anyTo (pIn (vbL (C : Int) ll m (R : Int)) x) (vbL (C : Int) ll m (R : Int)).length = !holdsD (C : Int) ll m (x : Int) (R : Int) ∧ anyTo (pCov (mdL (C : Int) ll m) R x) (mdL (C : Int) ll m).length = holdsD (C : Int) ll m (x : Int) (R : Int) := by
  have hb := isT_bd hT
  have hf : fineT (C : Int) ll m = true := by
    unfold fineT modeOk
    rw [hT, decide_eq_true (by omega)]; rfl
  have hC : C ≤ 5 := by omega
  have hv : vbL (C : Int) ll m (R : Int) = brdL C ll m R := by
    unfold vbL
    rw [if_pos ⟨hf, by omega, by omega⟩]; rfl
  have hm : mdL (C : Int) ll m = minD C ll m := by
    unfold mdL
    rw [if_pos hf]; rfl
  rw [hv, hm, holds_h7 hf (by omega) hC hx hR]
  obtain ⟨k1, k2⟩ := border_holds (ll := ll) (m := m) hC hR hx hr
  have k3 := h7_iff (ll := ll) (m := m) (L := x) hC hR
  constructor
  · rw [Bool.eq_iff_iff]
    refine k1.trans ?_
    rw [← k3, Bool.not_eq_true, Bool.not_eq_true']
  · rw [Bool.eq_iff_iff]
    exact k2.trans k3.symm
/-- What the last region holds on to. -/
theorem keepC {w4 w' w'' : World} {b b2 : Nat} {c l r c2 : Int} {v v2 : Value} (h : TDc w' b c v l r ∧ (w'.cell? ⟨b2, 0, none⟩ = some (.int .i64 c2) ∧ w'.cell? ⟨b2, 1, none⟩ = some v2) ∧ Below w4.heap.size w4 w') (hb : Below w'.heap.size w' w'') :
    TDc w'' b c v l r ∧ (w''.cell? ⟨b2, 0, none⟩ = some (.int .i64 c2) ∧ w''.cell? ⟨b2, 1, none⟩ = some v2) ∧ Below w4.heap.size w4 w'' :=
  ⟨h.1.kept hb, ⟨(hb.cell (World.block_lt_of_cell? _ _ h.2.1.1)).trans h.2.1.1, (hb.cell (World.block_lt_of_cell? _ _ h.2.1.2)).trans h.2.1.2⟩, h.2.2.trans (hb.mono h.2.2.size)⟩
theorem readD_at {w : World} {a : Option Addr} {n cap : Nat} {ds : List (Int × Int)} (h : ReadD w (.slice a n cap) ds) {i : Nat} (hi : i < ds.length) : ∃ b o, a = some ⟨b, o, none⟩ ∧ w.cell? ⟨b, o + i * 2, none⟩ = some (.int .i64 (ds.getD i (0, 0)).1) ∧ w.cell? ⟨b, o + i * 2 + 1, none⟩ = some (.int .i64 (ds.getD i (0, 0)).2) := by
  obtain ⟨a', cap', hv, hc⟩ := h
  cases hv
  exact hc i hi
theorem readI_at {w : World} {a : Option Addr} {n cap : Nat} {l : List Int} (h : ReadI w (.slice a n cap) l) {i : Nat} (hi : i < l.length) : ∃ x, a = some x ∧ w.cell? (x.add i) = some (.int .i64 (l.getD i 0)) := by
  obtain ⟨a', cap', hv, hc⟩ := h
  cases hv
  obtain ⟨x, e1, e2⟩ := hc i hi
  rw [get_getD l i hi] at e2
  exact ⟨x, e1, e2⟩
theorem getD_mem {α : Type} (l : List α) (d : α) {i : Nat} (hi : i < l.length) : l.getD i d ∈ l := by
  rw [List.getD_eq_getElem?_getD, List.getElem?_eq_getElem hi]; exact List.getElem_mem hi
theorem apL_small {c m rows : Int} {ll : List (List Int)} {d : Int × Int} (h : d ∈ apL c ll m rows) : 0 ≤ d.1 ∧ d.1 ≤ 31 ∧ 0 ≤ d.2 ∧ d.2 ≤ 4 := by
  unfold apL at h
  split at h
  · rename_i hf
    have hb := isT_bd (fineT_isT hf.1)
    obtain ⟨r, r1, S, r2, -, rfl⟩ := (mdOut_mem _ _ _ _).1 h
    obtain ⟨X, rfl, hX⟩ := parts_small _ S r2
    simp only
    omega
  · cases h
end Go.Proofs.YtlecfkfcjhliiaaGreat
