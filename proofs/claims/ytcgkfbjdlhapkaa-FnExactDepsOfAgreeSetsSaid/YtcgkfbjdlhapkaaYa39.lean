/- Texts of this claim, merged: PdC. Conditions: as stated. -/
import Derived.Test.YtcgkfbjdlhapkaaPdBm
import Derived.Test.YtcgkfbjdlhapkaaYa19
import Derived.Lib.AppendZeros
namespace Go.Proofs.Ytcgkfbjdlhapkaa
open Go.RowKit

theorem zero_cells (n : Nat) : (Builtin.zeroCells (Value.cells (.agg #[.int .i64 0, .int .i64 0])) n).size = n * 2 := by
  simp [Builtin.zeroCells, Value.cells]
section
set_option maxRecDepth 20000
set_option maxHeartbeats 3200000
theorem growNil_any (n : Nat) (hn : n ≤ 1048576) (w : World) :
    Calls Try.prog 141 #[.slice none 0 0, .int .i64 (n : Int)] w (RetD [] w) := by
  obtain ⟨i0, hi, hz0, hz1, hz2⟩ := info_parts infoDp
  have HI : Hid (_ ∧ _ ∧ _ ∧ _) := Lib.hid ⟨hi, hz0, hz1, hz2⟩
  clear hi hz0 hz1 hz2
  have z0 : ¬ ((n : Int) < 0) := by omega
  by_cases h0 : n = 0
  · subst h0
    go_enter Try.func141, Try.ntmps141
    go_wp2_with fail
    go_ret
    exact ⟨_, rfl, OwnD.nil _ _, Below.refl _ _⟩
  · have z1 : (n : Int) > 0 := by omega
    have hrz : ∀ ty, (Builtin.append_ #[26, 3] ty #[.slice none 0 0, .int .i64 (n : Int)]).run Try.prog w = _ := fun ty => Lib.run_append_nil_zeros w 26 3 ty 44 i0 (.agg #[.int .i64 0, .int .i64 0]) .i64 .i64 Try.underlying26 Try.underlying3 HI.out.1 HI.out.2.1 n (by omega) (by rw [HI.out.2.2.1]; omega) (by omega) (by rw [HI.out.2.2.2]; omega)
    have hge := grownCap_ge w n 0 44
    have hle := grownCap_le_maxLen w n 0 44 (by unfold maxLen; omega)
    obtain ⟨G, hG⟩ : ∃ G, G = grownCap w n 0 44 := ⟨_, rfl⟩
    rw [← hG] at hrz hge hle
    have ho := World.ownsRow_made (base := w.heap.size) (e := 44) (size := 2) w.drew (Builtin.zeroCells (Value.cells (.agg #[.int .i64 0, .int .i64 0])) n ++ Builtin.zeroCells (Value.cells (.agg #[.int .i64 0, .int .i64 0])) (G - n)) G (Nat.le_refl _) hle (by rw [Array.size_append, zero_cells, zero_cells]; omega)
    have HO := Lib.hid ho
    have hb := ((Below.refl w.heap.size w).drew).alloc (Nat.le_refl _) (.cells (Builtin.zeroCells (Value.cells (.agg #[.int .i64 0, .int .i64 0])) n ++ Builtin.zeroCells (Value.cells (.agg #[.int .i64 0, .int .i64 0])) (G - n)) 44)
    have HB := Lib.hid hb
    clear ho hb hG
    go_enter Try.func141, Try.ntmps141
    go_wp2_with (at_builtin; refine Lib.wpList_append_run _ rfl _ _ _ _ rfl _ _ rfl rfl _ _ (hrz _) ?_)
    go_ret
    exact ⟨_, rfl, HO.out, HB.out⟩
theorem two_cells (w : World) (g : Nat) (va vb : Value) (h0 : w.cell? ⟨g, 0, none⟩ = some va) (h1 : w.cell? ⟨g, 1, none⟩ = some vb) : ∀ i, i < 2 → w.cell? ⟨g, i, none⟩ = some (if i = 0 then va else vb) := by
  intro i hi
  rcases (show i = 0 ∨ i = 1 by omega) with rfl | rfl
  · exact h0
  · exact h1
theorem OwnD.app {w : World} {B : Nat} {v : Value} {a b : List (Int × Int)} (h : w.ownsRow B 44 2 v (a.length + b.length) (depsV a ++ depsV b)) : OwnD w B v (a ++ b) := by
  unfold OwnD
  rw [List.length_append, depsV_append]
  exact h
theorem concat_any (g : Nat) (aa ab : Option Addr) (ca cb : Nat) (a b : List (Int × Int)) (w : World) (ha : ReadD w (.slice aa a.length ca) a) (hb : ReadD w (.slice ab b.length cb) b) (hla : a.length ≤ 1000) (hlb : b.length ≤ 1000) (h0 : w.cell? ⟨g, 0, none⟩ = some (.slice aa a.length ca)) (h1 : w.cell? ⟨g, 1, none⟩ = some (.slice ab b.length cb)) :
    Calls Try.prog 133 #[.slice (some ⟨g, 0, none⟩) 2 2] w (RetD (a ++ b) w) := by
  obtain ⟨i0, hi, hz0, hz1, hz2⟩ := info_parts infoDp
  have HI : Hid (_ ∧ _ ∧ _ ∧ _) := Lib.hid ⟨hi, hz0, hz1, hz2⟩
  clear hi hz0 hz1 hz2
  have HC0 := Lib.hid (fun w' (hk : Below w.heap.size w w') => (hk.cell (World.block_lt_of_cell? w _ h0)).trans h0)
  have HC1 := Lib.hid (fun w' (hk : Below w.heap.size w w') => (hk.cell (World.block_lt_of_cell? w _ h1)).trans h1)
  have HA := Lib.hid (fun w' (hk : Below w.heap.size w w') => newsDn (ha.kept hk))
  have HBn := Lib.hid (fun w' (hk : Below w.heap.size w w') => newsDn (hb.kept hk))
  have HG := Lib.hid (growNil_any (a.length + b.length) (by omega) w)
  have HLa : Hid ((depsV a).length = a.length * 2) := Lib.hid (depsV_len a)
  have HLb : Hid ((depsV b).length = b.length * 2) := Lib.hid (depsV_len b)
  clear ha hb
  obtain ⟨na, hna⟩ : ∃ n, n = a.length := ⟨_, rfl⟩
  obtain ⟨nb, hnb⟩ : ∃ n, n = b.length := ⟨_, rfl⟩
  have w1 : wrap64 (0 + (na : Int)) = (na : Int) := by unfold wrap64; omega
  have w0 : wrap64 (na : Int) = (na : Int) := by unfold wrap64; omega
  have w2 : wrap64 ((na : Int) + (nb : Int)) = ((na + nb : Nat) : Int) := by unfold wrap64; omega
  have z1 : ¬ ((na : Int) < 0) := by omega
  have z2 : ¬ (((na + nb : Nat) : Int) < 0) := by omega
  rw [← hna] at HC0 HG HLa h0
  rw [← hnb] at HC1 HG HLb h1
  have hla' : na ≤ 1000 := by omega
  have hlb' : nb ≤ 1000 := by omega
  have HNA := Lib.hid hna
  have HNB := Lib.hid hnb
  clear hna hnb
  go_enter Try.func133, Try.ntmps133
  go_wp2_with fail
  go_loopw [3, 11] (fun sv iv wr => ((iv = .int .i64 0 ∧ sv = .int .i64 0) ∨ (iv = .int .i64 1 ∧ sv = .int .i64 (na : Int)) ∨ (iv = .int .i64 2 ∧ sv = .int .i64 ((na + nb : Nat) : Int))) ∧ wr = w) (fun _ iv _ => 2 - (intOf iv).toNat)
  case atStart => exact ⟨.inl ⟨rfl, rfl⟩, rfl⟩
  case round =>
    obtain ⟨hc, hwr⟩ := hrel
    rw [hwr]
    clear hwr
    rcases hc with ⟨rfl, rfl⟩ | ⟨rfl, rfl⟩ | ⟨rfl, rfl⟩
    · go_wp2_with fail
      go_roundw
      all_goals first | (simp [intOf]; done) | exact ⟨.inr (.inl ⟨rfl, by rw [w0]⟩), rfl⟩ | exact ⟨.inr (.inl ⟨by go_num, by rw [w1]⟩), rfl⟩ | exact ⟨.inr (.inl ⟨rfl, by rw [w0]⟩), trivial⟩
    · go_wp2_with fail
      go_roundw
      all_goals first | (simp [intOf]; done) | exact ⟨.inr (.inr ⟨by go_num, by rw [w2]⟩), rfl⟩ | exact ⟨.inr (.inr ⟨by go_num, by rw [w2]⟩), trivial⟩
    · go_wp2_with fail
      refine HG.out.mono ?_
      rintro e w1 ⟨v1, rfl, o1, b1⟩
      have HO1 := Lib.hid o1
      have HB1 := Lib.hid b1
      clear o1 b1 h0 h1
      go_wp2_with fail
      go_loopw [6, 27] (fun ov iv wr => ((iv = .int .i64 0 ∧ Hid (OwnD wr w.heap.size ov [])) ∨ (iv = .int .i64 1 ∧ Hid (OwnD wr w.heap.size ov a)) ∨ (iv = .int .i64 2 ∧ Hid (OwnD wr w.heap.size ov (a ++ b)))) ∧ Hid (Below w.heap.size w wr)) (fun _ iv _ => 2 - (intOf iv).toNat)
      case atStart => exact ⟨.inl ⟨rfl, HO1⟩, HB1⟩
      case round =>
        clear HO1 HB1
        obtain ⟨hc, HB⟩ := hrel
        obtain ⟨w3, hw⟩ : ∃ w', w' = wr := ⟨_, rfl⟩
        rw [← hw] at hc HB ⊢
        clear hw
        have c0 := HC0.out _ HB.out
        have c1 := HC1.out _ HB.out
        rcases hc with ⟨rfl, HO⟩ | ⟨rfl, HO⟩ | ⟨rfl, HO⟩
        · obtain ⟨a3, c3, hov⟩ : ∃ a c, _ = Value.slice a 0 c := HO.out.shape
          subst hov
          have HO' : Hid (w3.ownsRow w.heap.size 44 2 (.slice a3 0 c3) 0 []) := HO
          go_wp2_with (at_builtin; refine wpList_append_all rfl _ _ 26 rfl w.heap.size 44 i0 (.agg #[.int .i64 0, .int .i64 0]) 2 16 Try.underlying26 HI.out.1 HI.out.2.1 HI.out.2.2.1 HI.out.2.2.2 rfl (by decide) _ _ _ rfl HO'.out aa na _ (depsV a) rfl HLa.out (HA.out _ HB.out) (depsV_one _) (by unfold maxLen; omega) (by omega) (HB.out.size) ?_; intro v2 w4 hown2 hgrow2; have HO2 : Hid (OwnD w4 w.heap.size v2 a) := Lib.hid (by unfold OwnD; rw [← HNA.out]; have h := hown2; rw [Nat.zero_add, List.nil_append] at h; exact h); have HB2 := Lib.hid (HB.out.grown hgrow2 (HB.out.size) (fun g hg => (OwnD.lt HO.out g hg).1)); clear hown2 hgrow2)
          go_roundw
          all_goals first | (simp [intOf]; done) | exact ⟨.inr (.inl ⟨rfl, HO2⟩), HB2⟩ | exact ⟨.inr (.inl ⟨by go_num, HO2⟩), HB2⟩
        · obtain ⟨a3, c3, hov⟩ := HO.out.shape
          rw [← HNA.out] at hov
          subst hov
          have HO' : Hid (w3.ownsRow w.heap.size 44 2 (.slice a3 na c3) na (depsV a)) := Lib.hid (by have h := HO.out; unfold OwnD at h; rw [← HNA.out] at h; exact h)
          go_wp2_with (at_builtin; refine wpList_append_all rfl _ _ 26 rfl w.heap.size 44 i0 (.agg #[.int .i64 0, .int .i64 0]) 2 16 Try.underlying26 HI.out.1 HI.out.2.1 HI.out.2.2.1 HI.out.2.2.2 rfl (by decide) _ _ _ rfl HO'.out ab nb _ (depsV b) rfl HLb.out (HBn.out _ HB.out) (depsV_one _) (by unfold maxLen; omega) (by omega) (HB.out.size) ?_; intro v2 w4 hown2 hgrow2; have HO2 : Hid (OwnD w4 w.heap.size v2 (a ++ b)) := Lib.hid (OwnD.app (by rw [← HNA.out, ← HNB.out]; exact hown2)); have HB2 := Lib.hid (HB.out.grown hgrow2 (HB.out.size) (fun g hg => (OwnD.lt HO.out g hg).1)); clear hown2 hgrow2)
          go_roundw
          all_goals first | (simp [intOf]; done) | exact ⟨.inr (.inr ⟨rfl, HO2⟩), HB2⟩ | exact ⟨.inr (.inr ⟨by go_num, HO2⟩), HB2⟩
        · go_wp2_with fail
          go_ret
          exact ⟨_, rfl, HO.out, HB.out⟩
end
end Go.Proofs.Ytcgkfbjdlhapkaa
