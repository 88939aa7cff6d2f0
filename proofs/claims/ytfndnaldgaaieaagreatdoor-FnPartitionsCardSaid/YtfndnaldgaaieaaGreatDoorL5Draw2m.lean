/- The draws of two lists of classes. Conditions: the code is a readable slice of at most 1048576 bytes. -/
import Derived.Test.YtfndnaldgaaieaaGreatDoorSi22
namespace Go.Proofs.YtfndnaldgaaieaaGreatDoor
open Go.RowKit

/-- What DrawProductOf returns. -/
def RetDrawProductOf (w : World) (e : Ending) (w' : World) : Prop :=
  ∃ (pv qv : Value) (P Q : List (List Int)) (N : Nat), e = .returned (.tuple #[pv, qv, .int .i64 (N : Int)]) ∧ N ≤ 12 ∧ Cls5 P ∧ Cls5 Q ∧ ReadSS w' pv P ∧ ReadSS w' qv Q ∧ Below w.heap.size w w'
set_option maxHeartbeats 1600000 in
set_option maxRecDepth 20000 in
theorem dDrawProductOf_any (W : World) (v : Value) (n : Nat) (hn : n ≤ 1048576) (hcode : CodeAt W v n) (w : World) (hb : Below W.heap.size W w) :
    Calls Tryz.prog 18 #[v] w (RetDrawProductOf w) := by
  have H1 := Lib.hid (new_any W v n hn hcode w hb)
  have HL := Lib.hid (l5Draw_any W v n hn hcode)
  obtain ⟨a, cap, rfl⟩ := code_slice hcode
  go_enter Tryz.func18, Tryz.ntmps18
  go_wp2_with fail
  refine H1.out.mono ?_
  rintro e w1 ⟨c, hc, rfl, g1, hc1⟩
  go_wp2_with fail
  refine (HL.out c w1 hc1).mono ?_
  rintro e w2 ⟨pv, qv, P, Q, N, rfl, hN, hP, hQ, op, oq, g2, -⟩
  have hs1 := g1.size
  have HBE := Lib.hid (((Below.refl w.heap.size w).grown g1 (Nat.le_refl _) (by simp)).grown g2 hs1 (fun j hj => by cases hj; exact hc))
  have HRP := Lib.hid op.read
  have HRQ := Lib.hid oq.read
  obtain ⟨ap, cp, rfl, -⟩ := op.read
  obtain ⟨aq, cq, rfl, -⟩ := oq.read
  clear op oq g1 g2 hc1
  go_wp2_with fail
  go_ret3
  exact ⟨_, _, P, Q, N, rfl, hN, hP, hQ, HRP.out, HRQ.out, HBE.out⟩
/-- What DrawIsPartition returns. -/
def RetDrawIsPartition (w : World) (e : Ending) (w' : World) : Prop :=
  ∃ (pv qv : Value) (P Q : List (List Int)) (N : Nat), e = .returned (.tuple #[pv, .int .i64 (N : Int)]) ∧ N ≤ 12 ∧ Cls5 P ∧ Cls5 Q ∧ ReadSS w' pv P ∧ ReadSS w' qv Q ∧ Below w.heap.size w w'
set_option maxHeartbeats 1600000 in
set_option maxRecDepth 20000 in
theorem dDrawIsPartition_any (W : World) (v : Value) (n : Nat) (hn : n ≤ 1048576) (hcode : CodeAt W v n) (w : World) (hb : Below W.heap.size W w) :
    Calls Tryz.prog 19 #[v] w (RetDrawIsPartition w) := by
  have H1 := Lib.hid (new_any W v n hn hcode w hb)
  have HL := Lib.hid (l5Draw_any W v n hn hcode)
  obtain ⟨a, cap, rfl⟩ := code_slice hcode
  go_enter Tryz.func19, Tryz.ntmps19
  go_wp2_with fail
  refine H1.out.mono ?_
  rintro e w1 ⟨c, hc, rfl, g1, hc1⟩
  go_wp2_with fail
  refine (HL.out c w1 hc1).mono ?_
  rintro e w2 ⟨pv, qv, P, Q, N, rfl, hN, hP, hQ, op, oq, g2, -⟩
  have hs1 := g1.size
  have HBE := Lib.hid (((Below.refl w.heap.size w).grown g1 (Nat.le_refl _) (by simp)).grown g2 hs1 (fun j hj => by cases hj; exact hc))
  have HRP := Lib.hid op.read
  have HRQ := Lib.hid oq.read
  obtain ⟨ap, cp, rfl, -⟩ := op.read
  obtain ⟨aq, cq, rfl, -⟩ := oq.read
  clear op oq g1 g2 hc1
  go_wp2_with fail
  go_ret2
  exact ⟨_, _, P, Q, N, rfl, hN, hP, hQ, HRP.out, HRQ.out, HBE.out⟩
/-- What DrawIsFiner returns. -/
def RetDrawIsFiner (w : World) (e : Ending) (w' : World) : Prop :=
  ∃ (pv qv : Value) (P Q : List (List Int)) (N : Nat), e = .returned (.tuple #[pv, qv]) ∧ N ≤ 12 ∧ Cls5 P ∧ Cls5 Q ∧ ReadSS w' pv P ∧ ReadSS w' qv Q ∧ Below w.heap.size w w'
set_option maxHeartbeats 1600000 in
set_option maxRecDepth 20000 in
theorem dDrawIsFiner_any (W : World) (v : Value) (n : Nat) (hn : n ≤ 1048576) (hcode : CodeAt W v n) (w : World) (hb : Below W.heap.size W w) :
    Calls Tryz.prog 20 #[v] w (RetDrawIsFiner w) := by
  have H1 := Lib.hid (new_any W v n hn hcode w hb)
  have HL := Lib.hid (l5Draw_any W v n hn hcode)
  obtain ⟨a, cap, rfl⟩ := code_slice hcode
  go_enter Tryz.func20, Tryz.ntmps20
  go_wp2_with fail
  refine H1.out.mono ?_
  rintro e w1 ⟨c, hc, rfl, g1, hc1⟩
  go_wp2_with fail
  refine (HL.out c w1 hc1).mono ?_
  rintro e w2 ⟨pv, qv, P, Q, N, rfl, hN, hP, hQ, op, oq, g2, -⟩
  have hs1 := g1.size
  have HBE := Lib.hid (((Below.refl w.heap.size w).grown g1 (Nat.le_refl _) (by simp)).grown g2 hs1 (fun j hj => by cases hj; exact hc))
  have HRP := Lib.hid op.read
  have HRQ := Lib.hid oq.read
  obtain ⟨ap, cp, rfl, -⟩ := op.read
  obtain ⟨aq, cq, rfl, -⟩ := oq.read
  clear op oq g1 g2 hc1
  go_wp2_with fail
  go_ret2
  exact ⟨_, _, P, Q, N, rfl, hN, hP, hQ, HRP.out, HRQ.out, HBE.out⟩
end Go.Proofs.YtfndnaldgaaieaaGreatDoor
