/- The first two rows whose sides violate: firstViolation, by contract. Conditions: as stated. -/
import Derived.Test.YtficnbeciohpfaaSg16
import Derived.Test.YtficnbeciohpfaaSg17
import Derived.Deep.RegionLaw
namespace Go.Proofs.Ytficnbeciohpfaa
open Go.RowKit

/-- Two rows' sides violate. -/
def vioB (l : List (List Int)) (i k : Nat) : Bool := decide ((l.getD i []).take 5 = (l.getD k []).take 5) && !decide (l.getD i [] = l.getD k [])
theorem cell_on6 {w w' : World} {p : Addr} {v : Value} (h : w.cell? p = some v) (b : Below w.heap.size w w') : w'.cell? p = some v := (b.cell (World.block_lt_of_cell? w _ h)).trans h
def CutSd (w : World) (b : Nat) (o i : Nat) (s0 s1 s2 s3 s4 s5 : Int) : Prop :=
  w.cell? ⟨b, o + i * 6, none⟩ = some (.int .i64 s0) ∧ w.cell? ⟨b, o + i * 6 + 1, none⟩ = some (.int .i64 s1) ∧ w.cell? ⟨b, o + i * 6 + 2, none⟩ = some (.int .i64 s2) ∧ w.cell? ⟨b, o + i * 6 + 3, none⟩ = some (.int .i64 s3) ∧ w.cell? ⟨b, o + i * 6 + 4, none⟩ = some (.int .i64 s4) ∧ w.cell? ⟨b, o + i * 6 + 5, none⟩ = some (.int .i64 s5)
theorem ReadSd.at {w : World} {a : Option Addr} {n cap : Nat} {l : List (List Int)} (h : ReadSd w (.slice a n cap) l) {i : Nat} (hi : i < l.length) (h6 : S6 (l.getD i [])) : ∃ b o s0 s1 s2 s3 s4 s5, a = some ⟨b, o, none⟩ ∧ l.getD i [] = [s0, s1, s2, s3, s4, s5] ∧ CutSd w b o i s0 s1 s2 s3 s4 s5 := by
  obtain ⟨a', cap', hv, hc⟩ := h
  cases hv
  obtain ⟨b, o, ha, h0⟩ := hc i hi
  exact ⟨b, o, _, _, _, _, _, _, ha, s6_list h6, h0 0 (by omega), h0 1 (by omega), h0 2 (by omega), h0 3 (by omega), h0 4 (by omega), h0 5 (by omega)⟩
theorem CutSd.on {w w' : World} {b o i : Nat} {s0 s1 s2 s3 s4 s5 : Int} (h : CutSd w b o i s0 s1 s2 s3 s4 s5) (hb : Below w.heap.size w w') : CutSd w' b o i s0 s1 s2 s3 s4 s5 :=
  ⟨cell_on6 h.1 hb, cell_on6 h.2.1 hb, cell_on6 h.2.2.1 hb, cell_on6 h.2.2.2.1 hb, cell_on6 h.2.2.2.2.1 hb, cell_on6 h.2.2.2.2.2 hb⟩
theorem sidV_six (s0 s1 s2 s3 s4 s5 : Int) : sidV [s0, s1, s2, s3, s4, s5] = .agg #[.int .i64 s0, .int .i64 s1, .int .i64 s2, .int .i64 s3, .int .i64 s4, .int .i64 s5] := rfl
set_option maxRecDepth 20000 in
set_option maxHeartbeats 1600000 in
theorem firstViolation_any (v : Value) (l : List (List Int)) (w : World) (hr : ReadSd w v l) (hS : ∀ i, i < l.length → S6 (l.getD i [])) (hl : l.length ≤ 1048576) :
    Calls Try.prog 40 #[v] w fun e w' => e = .returned (.tuple #[.int .i64 (pairI (vioB l) l.length).1, .int .i64 (pairI (vioB l) l.length).2, .bool (decide (0 ≤ (pairI (vioB l) l.length).1))]) ∧ Below w.heap.size w w' := by
  have HR := Lib.hid hr
  obtain ⟨a, cap, rfl, -⟩ := hr
  have HEQ := Lib.hid (fun a b (h : PairIs (vioB l) l.length a b) => pairI_eq h)
  have HSS := Lib.hid hS
  clear hS
  go_enter Try.func40, Try.ntmps40
  go_wp2_with fail
  go_loopw [10] (fun iv wr => ∃ i : Nat, i ≤ l.length ∧ iv = .int .i64 (i : Int) ∧ Hid (∀ i' k', i' < i → i' < k' → k' < l.length → vioB l i' k' = false) ∧ Below w.heap.size w wr) (fun iv _ => l.length - (intOf iv).toNat)
  case atStart => exact ⟨0, by omega, rfl, Lib.hid (fun i' k' h => absurd h (Nat.not_lt_zero _)), Below.refl _ _⟩
  case round =>
    obtain ⟨i, hi, rfl, HNO, hb⟩ := hrel
    obtain ⟨w1, hw1⟩ : ∃ w', w' = wr := ⟨_, rfl⟩
    rw [← hw1] at hb ⊢
    clear hw1
    by_cases hlt : i < l.length
    · have z0 : (0 : Int) ≤ (i : Int) := by omega
      have z1 : (i : Int) < (l.length : Int) := by omega
      obtain ⟨b, o, s0, s1, s2, s3, s4, s5, rfl, hs, hc⟩ := ReadSd.at (HR.out.kept hb) hlt (HSS.out i hlt)
      have HSI := Lib.hid hs
      obtain ⟨c0, c1, c2, c3, c4, c5⟩ := hc
      have hw2 := (Below.refl w1.heap.size w1).alloc (Nat.le_refl _) (.cells #[.int .i64 s0, .int .i64 s1, .int .i64 s2, .int .i64 s3, .int .i64 s4, .int .i64 s5] 72)
      have hbx := Box6.new w1 72 s0 s1 s2 s3 s4 s5
      have hws := hb.size
      have hbb := hb.trans (hw2.mono hb.size)
      have hlt1 : w1.heap.size < (w1.alloc (.cells #[.int .i64 s0, .int .i64 s1, .int .i64 s2, .int .i64 s3, .int .i64 s4, .int .i64 s5] 72)).heap.size := by simp
      have z3 : IntKind.i64.wrap ((i : Int) + 1) = (i : Int) + 1 := IntWalk.i64_in _ (by omega)
      clear hs hw2 hb
      go_wp2_with fail
      clear c0 c1 c2 c3 c4 c5
      go_loopw [7] (fun kv wr => ∃ k : Nat, i < k ∧ k ≤ l.length ∧ kv = .int .i64 (k : Int) ∧ Hid (∀ k', i < k' → k' < k → vioB l i k' = false) ∧ Box6 wr w1.heap.size s0 s1 s2 s3 s4 s5 ∧ w1.heap.size < wr.heap.size ∧ Below w.heap.size w wr) (fun kv _ => l.length - (intOf kv).toNat)
      case atStart => exact ⟨i + 1, by omega, by omega, by go_num, Lib.hid (fun k' h1 h2 => by omega), hbx, hlt1, hbb⟩
      case round =>
        clear hbx hlt1 hbb
        obtain ⟨k, hik, hk, rfl, HNK, hbx, hlw, hb⟩ := hrel
        obtain ⟨w2, hw2⟩ : ∃ w', w' = wr := ⟨_, rfl⟩
        rw [← hw2] at hbx hlw hb ⊢
        clear hw2
        by_cases hlk : k < l.length
        · have z4 : (0 : Int) ≤ (k : Int) := by omega
          have z5 : (k : Int) < (l.length : Int) := by omega
          obtain ⟨b', o', t0, t1, t2, t3, t4, t5, hbo, ht, hc⟩ := ReadSd.at (HR.out.kept hb) hlk (HSS.out k hlk)
          cases hbo
          obtain ⟨c0, c1, c2, c3, c4, c5⟩ := hc
          have HV := Lib.hid (fun w' => violate_any (l.getD i []) (l.getD k []) w' (HSS.out i hlt) (HSS.out k hlk))
          have HVB : Hid (vioB l i k = (decide ((l.getD i []).take 5 = (l.getD k []).take 5) && !decide (l.getD i [] = l.getD k []))) := Lib.hid rfl
          obtain ⟨q, hq⟩ : ∃ q, q = vioB l i k := ⟨_, rfl⟩
          rw [← HVB.out, ← hq, HSI.out, ht, sidV_six, sidV_six] at HV
          have HQ := Lib.hid hq
          have HB := Lib.hid hb
          have HBX := Lib.hid hbx
          obtain ⟨d0, d1, d2, d3, d4, d5⟩ := hbx
          clear hq ht hb HVB
          cases q with
          | false =>
            go_wp2_with fail
            go_region_law (go_simp; go_at_call 67; refine (HV.out w2.drew).mono ?_; rintro e w3 ⟨rfl, b3⟩)
            all_goals
              replace b3 : Below w2.heap.size w2 w3 := (Below.refl w2.heap.size w2).drew.trans b3
              have hb3 := HB.out.trans (b3.mono HB.out.size)
              have hbx3 := HBX.out.kept b3 hlw
              have hs3 := b3.size
              clear b3 c0 c1 c2 c3 c4 c5 d0 d1 d2 d3 d4 d5
              go_wp2_with fail
              go_roundw
              case rel => exact ⟨k + 1, by omega, by omega, by go_num, Lib.hid (fun k' g1 g2 => by
                by_cases e : k' = k
                · rw [e]; exact HQ.out.symm
                · exact HNK.out k' g1 (by omega)), hbx3, by omega, hb3⟩
              case measure => simp [intOf]; omega
          | true =>
            have HP := Lib.hid (HEQ.out (i : Int) (k : Int) (.inr ⟨i, k, rfl, rfl, hik, hlk, HQ.out.symm, HNO.out, HNK.out⟩))
            go_wp2_with fail
            go_region_law (go_simp; go_at_call 67; refine (HV.out w2.drew).mono ?_; rintro e w3 ⟨rfl, b3⟩)
            all_goals
              replace b3 : Below w2.heap.size w2 w3 := (Below.refl w2.heap.size w2).drew.trans b3
              have hb3 := HB.out.trans (b3.mono HB.out.size)
              clear b3 c0 c1 c2 c3 c4 c5 d0 d1 d2 d3 d4 d5
              go_wp2_with fail
              go_ret3
              exact ⟨by rw [HP.out]; simp only [decide_eq_true (show (0 : Int) ≤ (i : Int) by omega)]; rfl, hb3⟩
        · obtain rfl : k = l.length := by omega
          go_wp2_with fail
          go_roundw
          case rel => exact ⟨i + 1, by omega, by go_num, Lib.hid (fun i' k' g1 g2 g3 => by
            by_cases e : i' = i
            · rw [e] at g2 ⊢; exact HNK.out k' g2 g3
            · exact HNO.out i' k' (by omega) g2 g3), hb⟩
          case measure => simp [intOf]; omega
    · obtain rfl : i = l.length := by omega
      have HP := Lib.hid (HEQ.out (-1) (-1) (.inl ⟨rfl, rfl, fun i k g1 g2 => HNO.out i k (by omega) g1 g2⟩))
      go_wp2_with fail
      go_ret3
      exact ⟨by rw [HP.out]; rfl, hb⟩
end Go.Proofs.Ytficnbeciohpfaa
