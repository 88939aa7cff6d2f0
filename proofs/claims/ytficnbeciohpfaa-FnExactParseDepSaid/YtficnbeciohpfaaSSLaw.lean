/- The laws' functions on rows of ints, as the exact laws over [][]int use them. Conditions: as stated. -/
import Derived.Test.YtficnbeciohpfaaTabs4
namespace Go.Proofs.Ytficnbeciohpfaa
open Go.RowKit

theorem eqSS_any (v v' : Value) (d : List (List Int)) (w : World) (hr : ReadSS w v d) (hr' : ReadSS w v' d) (hl : d.length ≤ 1048576) (ht : tot d ≤ 1048576) :
    Calls Try.prog 41 #[v, v'] w fun e w' => e = .returned (.bool true) ∧ Below w.heap.size w w' :=
  (eqIntSS_any v v' d d w hr hr' (by omega) (fun i hi => by have := tot_get hi; omega)).mono fun _ _ ⟨a, b⟩ => ⟨by rw [a, decide_eq_true rfl], b⟩
theorem szSS_any (v : Value) (d : List (List Int)) (w : World) (hr : ReadSS w v d) (hs : Short d) (left : Int) (h0 : 0 ≤ left) (h1 : left ≤ 1048576) :
    Calls Try.prog 35 #[v, .int .i64 left] w fun e w' => e = .returned (.int .i64 (szD left (szOf d))) ∧ Below w.heap.size w w' :=
  (szIntSS_any v d w hr hs left h0 h1).mono fun _ _ ⟨a, b⟩ => ⟨a, by rw [← b]; exact Below.refl _ _⟩
theorem szOf_tot {d : List (List Int)} (h : szOf d ≤ 1048576) : tot d ≤ 1048576 := by unfold szOf at h; omega
theorem tot_one {d : List (List Int)} (h : szOf d ≤ 1048576) : 1 + tot d ≤ 1048576 := by
  unfold szOf at h
  cases d with
  | nil => simp [tot]
  | cons r t => simp only [List.length_cons] at h; omega
end Go.Proofs.Ytficnbeciohpfaa
