/- The sides of all rows: sidesOf, by contract. Conditions: as stated. -/
import Derived.Test.YtcgkfbjdlhapkaaYa56
import Derived.Test.YtcgkfbjdlhapkaaYa27
import Derived.Test.YtcgkfbjdlhapkaaYa16
import Derived.Test.YtcgkfbjdlhapkaaDepDm
import Derived.Deep.AppendLies
import Derived.Deep.RegionLaw
namespace Go.Proofs.Ytcgkfbjdlhapkaa
open Go.RowKit

theorem okD_parts {c m l r : Int} {ll : List (List Int)} : okD c ll m l r = (modeOk m && (isT c ll && depB c l r)) := by
  unfold okD fineT
  cases modeOk m <;> cases isT c ll <;> rfl
theorem modeOk_two6 {m : Int} (h : modeOk m = true) : m = 0 ∨ m = 1 := by simpa [modeOk] using h
theorem isA_nat6 {c s : Int} (h : isA c s = true) (h5 : 1 ≤ c ∧ c ≤ 5) : ∃ S : Nat, s = (S : Int) ∧ S < 2 ^ c.toNat ∧ S < 32 := by
  obtain ⟨C, rfl⟩ : ∃ C : Nat, c = (C : Int) := ⟨c.toNat, by omega⟩
  obtain ⟨S, rfl, hC, hS⟩ := isA_nat h
  exact ⟨S, rfl, by rw [show ((C : Int)).toNat = C by omega]; exact hS, pow_lt32 hC hS⟩
theorem okD_facts {c m l r : Int} {ll : List (List Int)} (h : okD c ll m l r = true) : isT c ll = true ∧ (m = 0 ∨ m = 1) ∧ ∃ L R : Nat, l = (L : Int) ∧ r = (R : Int) ∧ L < 2 ^ c.toNat ∧ R < c.toNat := by
  rw [okD_parts, Bool.and_eq_true, Bool.and_eq_true] at h
  obtain ⟨hm, hT, hd⟩ := h
  obtain ⟨hc1, hc5, -⟩ := isT_bd hT
  have hdd := depB_iff.1 hd
  obtain ⟨L, rfl, hL, -⟩ := isA_nat6 hdd.2.1 ⟨hc1, hc5⟩
  exact ⟨hT, modeOk_two6 hm, L, r.toNat, rfl, by omega, hL, by omega⟩
theorem six_new (w : World) (T : TypeId) (vs : List Value) : ∀ j u, vs[j]? = some u → (w.alloc (.cells vs.toArray T)).cell? ((⟨w.heap.size, 0, none⟩ : Addr).add j) = some u := by
  intro j u hj
  rw [add_zero_off, World.cell?_alloc_mark w vs.toArray T (0, 0) j]
  simpa using hj
theorem ownsRow_down6 {w : World} {base base' : Nat} {e : TypeId} {size : Nat} {v : Value} {n : Nat} {xs : List Value} (h : w.ownsRow base e size v n xs) (hb : base' ≤ base) : w.ownsRow base' e size v n xs := by
  refine ⟨h.1, ?_⟩
  rcases h.2 with h' | ⟨g, cap, cur, e1, hB, rest⟩
  · exact .inl h'
  · exact .inr ⟨g, cap, cur, e1, Nat.le_trans hb hB, rest⟩
theorem six_one (a0 a1 a2 a3 a4 a5 : Int) : ∀ u ∈ [Value.int .i64 a0, .int .i64 a1, .int .i64 a2, .int .i64 a3, .int .i64 a4, .int .i64 a5], u.oneCell' = true := by
  intro u hu
  simp only [List.mem_cons, List.not_mem_nil, or_false] at hu
  rcases hu with rfl | rfl | rfl | rfl | rfl | rfl <;> rfl
theorem RecAt.cells6 {w : World} {b : Nat} {r : List Int} (h : RecAt w b r) (hr : (pad5 r) = [r.getD 0 0, r.getD 1 0, r.getD 2 0, r.getD 3 0, r.getD 4 0]) : ∃ a0 a1 a2 a3 a4 : Int, pad5 r = [a0, a1, a2, a3, a4] ∧ w.cell? ⟨b, 0, none⟩ = some (.int .i64 a0) ∧ w.cell? ⟨b, 1, none⟩ = some (.int .i64 a1) ∧ w.cell? ⟨b, 2, none⟩ = some (.int .i64 a2) ∧ w.cell? ⟨b, 3, none⟩ = some (.int .i64 a3) ∧ w.cell? ⟨b, 4, none⟩ = some (.int .i64 a4) :=
  ⟨_, _, _, _, _, hr, (h 0 (by omega)).1, (h 1 (by omega)).1, (h 2 (by omega)).1, (h 3 (by omega)).1, (h 4 (by omega)).1⟩
end Go.Proofs.Ytcgkfbjdlhapkaa
