/- Texts of this claim, merged: DepA, DepE, DepDraw5, AgrA, AgrB. Conditions: as stated. -/
import Derived.Test.YtfndnaldgaaieaaSh2
import Derived.Test.YtfndnaldgaaieaaSh4
import Derived.Test.YtfndnaldgaaieaaSh5
import Derived.Test.YtfndnaldgaaieaaDepDraw4m
namespace Go.Proofs.Ytfndnaldgaaieaa
open Go.RowKit

/-- A dependency of n columns. -/
def depB (n l r : Int) : Bool := decide (1 ≤ n ∧ n ≤ 5) && (isA n l && decide (0 ≤ r ∧ r ≤ n - 1))
theorem depB_iff {n l r : Int} : depB n l r = true ↔ (1 ≤ n ∧ n ≤ 5) ∧ isA n l = true ∧ 0 ≤ r ∧ r ≤ n - 1 := by unfold depB; simp
set_option maxHeartbeats 800000 in
theorem isDep_any (n l r : Int) (w : World) :
    Calls Try.prog 15 #[.int .i64 n, .agg #[.int .i64 l, .int .i64 r]] w fun e w' => e = .returned (.bool (depB n l r)) ∧ Below w.heap.size w w' := by
  have hb1 := (Below.refl w.heap.size w).alloc (Nat.le_refl _) (.cells #[.int .i64 l, .int .i64 r] 28)
  obtain ⟨c0, c1⟩ := zero2 w 28 (.int .i64 l) (.int .i64 r)
  by_cases hn : 1 ≤ n ∧ n ≤ 5
  · have h1 : decide (1 ≤ n ∧ n ≤ 5) = true := decide_eq_true hn
    have h0 : 0 ≤ n := by omega
    have h2 : n ≤ 5 := hn.2
    cases ha : isA n l with
    | true =>
      have HE : Hid (depB n l r = (decide (0 ≤ r) && decide (r ≤ n - 1))) := Lib.hid (by unfold depB; rw [h1, ha]; simp)
      have HA := Lib.hid (isA_any n l)
      have HI := Lib.hid (fun w' => in_any n 1 5 w')
      have HR := Lib.hid (fun w' => in_any r 0 (n - 1) w')
      rw [h1] at HI
      rw [ha] at HA
      clear ha hn h1
      go_enter Try.func15, Try.ntmps15
      go_wp2_with fail
      refine (HI.out _).mono ?_
      rintro e w' ⟨rfl, rfl⟩
      go_wp2_with fail
      refine (HA.out _).mono ?_
      rintro e w' ⟨rfl, rfl⟩
      go_wp2_with fail
      refine (HR.out _).mono ?_
      rintro e w' ⟨rfl, rfl⟩
      go_wp2_with fail
      go_ret
      exact ⟨ret_b HE.out, hb1⟩
    | false =>
      have HE : Hid (depB n l r = false) := Lib.hid (by unfold depB; rw [ha]; simp)
      have HA := Lib.hid (isA_any n l)
      have HI := Lib.hid (fun w' => in_any n 1 5 w')
      rw [h1] at HI
      rw [ha] at HA
      clear ha hn h1
      go_enter Try.func15, Try.ntmps15
      go_wp2_with fail
      refine (HI.out _).mono ?_
      rintro e w' ⟨rfl, rfl⟩
      go_wp2_with fail
      refine (HA.out _).mono ?_
      rintro e w' ⟨rfl, rfl⟩
      go_wp2_with fail
      go_ret
      exact ⟨ret_b HE.out, hb1⟩
  · have h1 : decide (1 ≤ n ∧ n ≤ 5) = false := decide_eq_false hn
    have HE : Hid (depB n l r = false) := Lib.hid (by unfold depB; rw [h1]; simp)
    have HI := Lib.hid (fun w' => in_any n 1 5 w')
    rw [h1] at HI
    clear hn h1
    go_enter Try.func15, Try.ntmps15
    go_wp2_with fail
    refine (HI.out _).mono ?_
    rintro e w' ⟨rfl, rfl⟩
    go_wp2_with fail
    go_ret
    exact ⟨ret_b HE.out, hb1⟩
/-- Two cells of a block of the call's own, behind two more blocks. -/
theorem dep_box (w : World) (T : TypeId) (A C : Obj) (a b : Value) : (((w.alloc A).alloc (.cells #[a, b] T)).alloc C).cell? ⟨w.heap.size + 1, 0, none⟩ = some a ∧ (((w.alloc A).alloc (.cells #[a, b] T)).alloc C).cell? ⟨w.heap.size + 1, 1, none⟩ = some b := by
  obtain ⟨h0, h1⟩ := zero2 (w.alloc A) T a b
  have hs : (w.alloc A).heap.size = w.heap.size + 1 := by simp
  rw [hs] at h0 h1
  have hb := (Below.refl ((w.alloc A).alloc (.cells #[a, b] T)).heap.size ((w.alloc A).alloc (.cells #[a, b] T))).alloc (Nat.le_refl _) C
  exact ⟨(hb.cell (p := ⟨w.heap.size + 1, 0, none⟩) (by simp)).trans h0, (hb.cell (p := ⟨w.heap.size + 1, 1, none⟩) (by simp)).trans h1⟩
end Go.Proofs.Ytfndnaldgaaieaa
namespace Go.Proofs.Ytfndnaldgaaieaa
open Go.RowKit

theorem fmtA_empty (x : Int) : (fmtA x).toList.isEmpty = !valB x := by
  rw [ByteArray.toList_eq]
  unfold fmtA valB
  by_cases h : 0 ≤ x ∧ x ≤ 31
  · rw [if_pos h, decide_eq_true h]
    split
    · rfl
    · next hl =>
      cases hq : lets x.toNat 5 with
      | nil => exact absurd hq hl
      | cons a b => rfl
  · rw [if_neg h, decide_eq_false h]; rfl
/-- The text of a dependency, empty if it has none. -/
def fmtD (l r : Int) : ByteArray := if valB l = true ∧ 0 ≤ r ∧ r ≤ 4 then fmtA l ++ ⟨#[62]⟩ ++ fmtA (2 ^ r.toNat : Nat) else ⟨#[]⟩
theorem fmtA_size (x : Int) : (fmtA x).size ≤ 5 := by
  rw [str_size]
  unfold fmtA
  split
  · split
    · decide
    · have := lets_len x.toNat 5; simpa using this
  · decide
set_option maxHeartbeats 1600000 in
theorem formatDep_any (l r : Int) (w : World) :
    Calls Try.prog 13 #[.agg #[.int .i64 l, .int .i64 r]] w fun e w' => e = .returned (.string (fmtD l r)) ∧ Below w.heap.size w w' := by
  have hb1 := (Below.refl w.heap.size w).alloc (Nat.le_refl _) (.cells #[.int .i64 l, .int .i64 r] 28)
  obtain ⟨c0, c1⟩ := zero2 w 28 (.int .i64 l) (.int .i64 r)
  have HBX := Lib.hid (fun w' (hb : Below (w.alloc (.cells #[.int .i64 l, .int .i64 r] 28)).heap.size (w.alloc (.cells #[.int .i64 l, .int .i64 r] 28)) w') => And.intro (hb1.trans (hb.mono hb1.size)) (box2 hb))
  have HRF := Lib.hid (Below.refl (w.alloc (.cells #[.int .i64 l, .int .i64 r] 28)).heap.size (w.alloc (.cells #[.int .i64 l, .int .i64 r] 28)))
  have he := fmtA_empty l
  have hs := fmtA_size l
  have HF := Lib.hid (formatS_any l)
  have HI := Lib.hid (fun w' => in_any r 0 4 w')
  by_cases hv : valB l = true
  · rw [hv] at he
    by_cases hr : 0 ≤ r ∧ r ≤ 4
    · have hd : decide (0 ≤ r ∧ r ≤ 4) = true := decide_eq_true hr
      have HE : Hid (fmtD l r = fmtA l ++ ⟨#[62]⟩ ++ fmtA (2 ^ r.toNat : Nat)) := Lib.hid (by unfold fmtD; rw [if_pos ⟨hv, hr⟩])
      obtain ⟨R, rfl⟩ : ∃ R : Nat, r = (R : Int) := ⟨r.toNat, by omega⟩
      rw [show ((R : Int)).toNat = R from rfl] at HE
      have hR : R ≤ 4 := by omega
      rw [hd] at HI
      obtain ⟨s, hss⟩ : ∃ s, s = fmtA l := ⟨_, rfl⟩
      rw [← hss] at HE HF he hs
      have hw : wrap64 (2 ^ R) = ((2 ^ R : Nat) : Int) := by
        rcases (show R = 0 ∨ R = 1 ∨ R = 2 ∨ R = 3 ∨ R = 4 by omega) with rfl | rfl | rfl | rfl | rfl <;> decide +kernel
      have HF2 := formatS_any (wrap64 (2 ^ R))
      obtain ⟨t, ht⟩ : ∃ t, t = fmtA (wrap64 (2 ^ R)) := ⟨_, rfl⟩
      have hts := fmtA_size (wrap64 (2 ^ R))
      rw [← ht] at HF2 hts
      rw [hw] at ht
      rw [← ht] at HE
      replace HF2 := Lib.hid HF2
      have hcat : s.size + (({ data := #[62] } : ByteArray)).size ≤ 9223372036854775807 := by show s.size + 1 ≤ _; omega
      have hcat2 : (s ++ ({ data := #[62] } : ByteArray)).size + t.size ≤ 9223372036854775807 := by
        have : (s ++ ({ data := #[62] } : ByteArray)).size = s.size + 1 := by rw [str_size, str_add, List.length_append, ← str_size]; rfl
        omega
      clear hv hr hd hss hb1 ht hw
      go_enter Try.func13, Try.ntmps13
      go_wp2_with fail
      refine (HF.out _).mono ?_
      rintro e w1 ⟨rfl, b1⟩
      clear c0 c1
      have b2 := HRF.out.trans (b1.mono HRF.out.size)
      obtain ⟨hb3, c0, c1⟩ := HBX.out _ b2
      clear b1
      go_wp2_with fail
      refine (HI.out _).mono ?_
      rintro e w2 ⟨rfl, rfl⟩
      go_wp2_with fail
      refine (HF2.out _).mono ?_
      rintro e w3 ⟨rfl, b3⟩
      have hb4 := hb3.trans (b3.mono hb3.size)
      clear b3 c0 c1
      go_wp2_with fail
      go_ret
      exact ⟨ret_s HE.out, hb4⟩
    · have hd : decide (0 ≤ r ∧ r ≤ 4) = false := decide_eq_false hr
      have HE : Hid (fmtD l r = ⟨#[]⟩) := Lib.hid (by unfold fmtD; rw [if_neg (fun h => hr h.2)])
      rw [hd] at HI
      obtain ⟨s, hss⟩ : ∃ s, s = fmtA l := ⟨_, rfl⟩
      rw [← hss] at HF he hs
      clear hv hr hd hss hb1
      go_enter Try.func13, Try.ntmps13
      go_wp2_with fail
      refine (HF.out _).mono ?_
      rintro e w1 ⟨rfl, b1⟩
      clear c0 c1
      have b2 := HRF.out.trans (b1.mono HRF.out.size)
      obtain ⟨hb3, c0, c1⟩ := HBX.out _ b2
      clear b1
      go_wp2_with fail
      refine (HI.out _).mono ?_
      rintro e w2 ⟨rfl, rfl⟩
      go_wp2_with fail
      go_ret
      exact ⟨ret_s HE.out, hb3⟩
  · have hv2 : valB l = false := by simpa using hv
    have HE : Hid (fmtD l r = ⟨#[]⟩) := Lib.hid (by unfold fmtD; rw [if_neg (fun h => hv h.1)])
    rw [hv2] at he
    obtain ⟨s, hss⟩ : ∃ s, s = fmtA l := ⟨_, rfl⟩
    rw [← hss] at HF he hs
    clear hv hv2 hss hb1
    go_enter Try.func13, Try.ntmps13
    go_wp2_with fail
    refine (HF.out _).mono ?_
    rintro e w1 ⟨rfl, b1⟩
    clear c0 c1
    have b2 := HRF.out.trans (b1.mono HRF.out.size)
    obtain ⟨hb3, c0, c1⟩ := HBX.out _ b2
    clear b1
    go_wp2_with fail
    go_ret
    exact ⟨ret_s HE.out, hb3⟩
end Go.Proofs.Ytfndnaldgaaieaa
namespace Go.Proofs.Ytfndnaldgaaieaa
open Go.RowKit

theorem pickS_any (W : World) (v : Value) (n : Nat) (hn : n ≤ 1048576) (hcode : CodeAt W v n) (c : Nat) (w : World) (hcur : Cur W v n c w) (L m : Nat) (most : Int) (hm : 1 ≤ m) (hm2 : m ≤ 1000) (hLc : L ≠ c) (hL : L < w.heap.size)
    (hcells : ∀ i, i < m → ∃ y : ByteArray, (y.size : Int) ≤ most ∧ w.cell? ⟨L, i, none⟩ = some (.string y)) :
    Calls Try.prog 35 #[.pointer (some ⟨c, 0, none⟩), .slice (some ⟨L, 0, none⟩) m m] w (CurStr W v n c most w) := by
  have HC := Lib.hid hcells
  have HB := Lib.hid (below_any W v n hn hcode c w hcur (m : Int) (by omega) (by omega))
  clear hcells
  go_enter Try.func35, Try.ntmps35
  go_wp2_with fail
  refine HB.out.mono ?_
  rintro e w1 ⟨x, x0, x1, rfl, g1, hc1⟩
  obtain ⟨j, rfl⟩ : ∃ j : Nat, x = (j : Int) := ⟨x.toNat, by omega⟩
  obtain ⟨y, y0, hy⟩ := HC.out j (by omega)
  have hy1 : w1.cell? ⟨L, j, none⟩ = some (.string y) := (World.cell?_of_block (g1.block L hL (by simp [hLc]))).trans hy
  have z1 : (j : Int) < (m : Int) := by omega
  go_wp2_with fail
  go_ret
  exact ⟨y, y0, rfl, g1, hc1⟩
theorem pick9s (w : World) (C : Array Value) (x1 x2 x3 x4 x5 x6 x7 x8 x9 : ByteArray) (hC : C = #[.string x1, .string x2, .string x3, .string x4, .string x5, .string x6, .string x7, .string x8, .string x9])
    (hx : x1.size ≤ 8 ∧ x2.size ≤ 8 ∧ x3.size ≤ 8 ∧ x4.size ≤ 8 ∧ x5.size ≤ 8 ∧ x6.size ≤ 8 ∧ x7.size ≤ 8 ∧ x8.size ≤ 8 ∧ x9.size ≤ 8) (t : TypeId) :
    ∀ i, i < 9 → ∃ y : ByteArray, (y.size : Int) ≤ 8 ∧ (w.alloc (.cells C t)).cell? ⟨w.heap.size, i, none⟩ = some (.string y) := by
  intro i hi
  have e : (w.alloc (.cells C t)).cell? ⟨w.heap.size, i, none⟩ = C[i]? := World.cell?_alloc_mark w C t (0, 0) i
  rw [e, hC]
  rcases (show i = 0 ∨ i = 1 ∨ i = 2 ∨ i = 3 ∨ i = 4 ∨ i = 5 ∨ i = 6 ∨ i = 7 ∨ i = 8 by omega) with rfl | rfl | rfl | rfl | rfl | rfl | rfl | rfl | rfl
  all_goals (refine ⟨_, ?_, rfl⟩; omega)
theorem fmtD_size (l r : Int) : (fmtD l r).size ≤ 11 := by
  unfold fmtD
  split
  · have h1 := fmtA_size l
    have h2 := fmtA_size ((2 ^ r.toNat : Nat) : Int)
    rw [ByteArray.size_append, ByteArray.size_append]
    have : (ByteArray.mk #[62]).size = 1 := rfl
    omega
  · exact Nat.zero_le _
def DrawIS (w : World) (e : Ending) (w' : World) : Prop := ∃ (q : Int) (s : ByteArray), 0 ≤ q ∧ q ≤ 6 ∧ s.size ≤ 1001 ∧ e = .returned (.tuple #[.int .i64 q, .string s]) ∧ Below w.heap.size w w'
set_option maxHeartbeats 3200000 in
set_option maxRecDepth 20000 in
theorem drawParseDep_any (W : World) (v : Value) (n : Nat) (hn : n ≤ 1048576) (hcode : CodeAt W v n) (w : World) (hb : Below W.heap.size W w) :
    Calls Try.prog 16 #[v] w (DrawIS w) := by
  have H1 := Lib.hid (new_any W v n hn hcode w hb)
  have HB := Lib.hid (below_any W v n hn hcode)
  have HD := Lib.hid (anyDep_any W v n hn hcode)
  have HS := Lib.hid (spoil_any W v n hn hcode)
  have HP := Lib.hid (pickS_any W v n hn hcode)
  obtain ⟨a, cap, rfl⟩ := code_slice hcode
  go_enter Try.func16, Try.ntmps16
  go_wp2_with fail
  refine H1.out.mono ?_
  rintro e w1 ⟨c, hc, rfl, g1, hc1⟩
  go_wp2_with fail
  refine (HB.out c w1 hc1 7 (by omega) (by omega)).mono ?_
  rintro e w2 ⟨q, q0, q1, rfl, g2, hc2⟩
  go_wp2_with fail
  refine (HD.out c w2 hc2 5).mono ?_
  rintro e w3 ⟨l, r, l0, l1, r0, r1, rfl, g3, hc3⟩
  go_wp2_with fail
  refine (formatDep_any l r w3).mono ?_
  rintro e w4 ⟨rfl, b4⟩
  have g4 : w3.grownBy w4 none := ⟨b4.os, b4.tape, b4.output, b4.size, fun j hj _ => b4.block j hj⟩
  have hc4 := hc3.kept g4 (by simp) (by simp)
  have hsz := fmtD_size l r
  obtain ⟨s, hs⟩ : ∃ s, s = fmtD l r := ⟨_, rfl⟩
  rw [← hs] at hsz ⊢
  clear hs
  have HG4 := Lib.hid (below_of_grown (w := w) (w1 := w1) (w2 := w4) g1 (grown_trans (grown_trans g2 g3) ⟨g4.os, g4.tape, g4.output, g4.size, fun j hj _ => g4.block j hj (by simp)⟩) hc)
  go_wp2_with fail
  refine (HB.out c w4 hc4 4 (by omega) (by omega)).mono ?_
  rintro e w5 ⟨z, z0, z1, rfl, g5, hc5⟩
  have hb5 := HG4.out.grown g5 HG4.out.size (fun k hk => by simp at hk; omega)
  have hcl := hc5.lt
  have HG5 := Lib.hid hb5
  have HC5 := Lib.hid hc5
  clear g1 g2 g3 g4 g5 hc1 hc2 hc3 hc4 b4 hb5 hc5
  rcases (show z = 0 ∨ z = 1 ∨ z ≠ 0 ∧ z ≠ 1 by omega) with rfl | rfl | ⟨h0, h1⟩
  · go_wp2_with fail
    refine (HS.out c w5 HC5.out s (by omega)).mono ?_
    rintro e w6 ⟨t, ht, rfl, g6, hc6⟩
    go_wp2_with fail
    exact bodyPost_ret (v := .tuple #[.int .i64 q, .string t]) (by simp [results, Try.results16, go_sem]) rfl ⟨q, t, q0, by omega, by omega, rfl, HG5.out.grown g6 HG5.out.size (fun k hk => by simp at hk; omega)⟩
  · have HAL := Lib.hid (fun o => HC5.out.kept (World.grownBy_alloc w5 o none) (by simp) (by simp))
    have HBL := Lib.hid (fun o => HG5.out.alloc HG5.out.size o)
    go_wp2_with fail
    refine (HP.out c _ (HAL.out _) w5.heap.size 9 8 (by omega) (by omega) (by omega) (by simp) (pick9s w5 _ _ _ _ _ _ _ _ _ _ rfl (by decide) _)).mono ?_
    rintro e w6 ⟨t, ht, rfl, g6, hc6⟩
    go_wp2_with fail
    exact bodyPost_ret (v := .tuple #[.int .i64 q, .string t]) (by simp [results, Try.results16, go_sem]) rfl ⟨q, t, q0, by omega, by omega, rfl, (HBL.out _).grown g6 (HBL.out _).size (fun k hk => by simp at hk; omega)⟩
  · go_wp2_with fail
    exact bodyPost_ret (v := .tuple #[.int .i64 q, .string s]) (by simp [results, Try.results16, go_sem]) rfl ⟨q, s, q0, by omega, by omega, rfl, HG5.out⟩
end Go.Proofs.Ytfndnaldgaaieaa
namespace Go.Proofs.Ytfndnaldgaaieaa
open Go.RowKit

def modeOk (m : Int) : Bool := decide (m = 0 ∨ m = 1)
/-- Two values are equal in this mode. -/
def eqC (m a b : Int) : Bool := decide ((m = 0 ∨ m = 1) ∧ a = b ∧ (m = 0 ∨ a ≠ -1))
theorem l4Mode_any (m : Int) (w : World) :
    Calls Try.prog 51 #[.int .i64 m] w fun e w' => e = .returned (.bool (modeOk m)) ∧ w = w' := by
  unfold modeOk
  by_cases h0 : m = 0
  · subst h0
    go_enter Try.func51, Try.ntmps51
    go_wp2_with fail
    go_ret
    exact ⟨rfl, rfl⟩
  · by_cases h1 : m = 1
    · subst h1
      go_enter Try.func51, Try.ntmps51
      go_wp2_with fail
      go_ret
      exact ⟨rfl, rfl⟩
    · have e0 : (m == 0) = false := by simpa using h0
      have e1 : (m == 1) = false := by simpa using h1
      go_enter Try.func51, Try.ntmps51
      go_wp2_with fail
      go_ret
      exact ⟨ret_b (by rw [decide_eq_false (by omega)]), rfl⟩
theorem eqCells_any (m a b : Int) (w : World) :
    Calls Try.prog 53 #[.int .i64 m, .int .i64 a, .int .i64 b] w fun e w' => e = .returned (.bool (eqC m a b)) ∧ w = w' := by
  have HM := Lib.hid (l4Mode_any m w)
  cases hm : modeOk m with
  | false =>
    rw [hm] at HM
    have h : ¬ (m = 0 ∨ m = 1) := by simpa [modeOk] using hm
    have he : eqC m a b = false := by unfold eqC; rw [decide_eq_false]; omega
    have HE := Lib.hid he
    clear he hm h
    go_enter Try.func53, Try.ntmps53
    go_wp2_with fail
    refine HM.out.mono ?_
    rintro e w' ⟨rfl, rfl⟩
    go_wp2_with fail
    go_ret
    exact ⟨ret_b HE.out, rfl⟩
  | true =>
    rw [hm] at HM
    have h : m = 0 ∨ m = 1 := by simpa [modeOk] using hm
    clear hm
    by_cases hab : a = b
    · subst hab
      by_cases h0 : m = 0
      · subst h0
        have HE := Lib.hid (show eqC 0 a a = true by unfold eqC; simp)
        go_enter Try.func53, Try.ntmps53
        go_wp2_with fail
        refine HM.out.mono ?_
        rintro e w' ⟨rfl, rfl⟩
        go_wp2_with fail
        go_ret
        exact ⟨ret_b HE.out, rfl⟩
      · obtain rfl : m = 1 := by omega
        clear h h0
        by_cases ha : a = -1
        · subst ha
          have HE := Lib.hid (show eqC 1 (-1) (-1) = false by decide)
          go_enter Try.func53, Try.ntmps53
          go_wp2_with fail
          refine HM.out.mono ?_
          rintro e w' ⟨rfl, rfl⟩
          go_wp2_with fail
          go_ret
          exact ⟨ret_b HE.out, rfl⟩
        · have e1 : (a != -1) = true := by simpa using ha
          have HE := Lib.hid (show eqC 1 a a = true by unfold eqC; simp [ha])
          go_enter Try.func53, Try.ntmps53
          go_wp2_with fail
          refine HM.out.mono ?_
          rintro e w' ⟨rfl, rfl⟩
          go_wp2_with fail
          go_ret
          exact ⟨ret_b HE.out, rfl⟩
    · have e0 : (a == b) = false := by simpa using hab
      have HE := Lib.hid (show eqC m a b = false by unfold eqC; rw [decide_eq_false]; omega)
      clear h hab
      go_enter Try.func53, Try.ntmps53
      go_wp2_with fail
      refine HM.out.mono ?_
      rintro e w' ⟨rfl, rfl⟩
      go_wp2_with fail
      go_ret
      exact ⟨ret_b HE.out, rfl⟩
/-- The set of the columns below n in which two rows agree. -/
def agrTo (m : Int) (r s : List Int) : Nat → Int
  | 0 => 0
  | n + 1 => agrTo m r s n + (if eqC m (r.getD n 0) (s.getD n 0) = true then 2 ^ n else 0)
theorem agrTo_bd (m : Int) (r s : List Int) (n : Nat) : 0 ≤ agrTo m r s n ∧ agrTo m r s n < 2 ^ n := by
  induction n with
  | zero => simp [agrTo]
  | succ n ih =>
    have h2 : (2 : Int) ^ (n + 1) = 2 * 2 ^ n := by rw [Int.pow_succ]; omega
    unfold agrTo
    split <;> omega
/-- A valid table and a mode that there is. -/
def fineT (c : Int) (ll : List (List Int)) (m : Int) : Bool := isT c ll && modeOk m
set_option maxHeartbeats 800000 in
theorem l4Fine_any (c m : Int) (v : Value) (ll : List (List Int)) (w : World) (hr : ReadSS w v ll) (hl : ll.length ≤ 1048576) (ht : ∀ i, i < ll.length → (ll.getD i []).length ≤ 1048576) :
    Calls Try.prog 22 #[.agg #[.int .i64 c, v], .int .i64 m] w fun e w' => e = .returned (.bool (fineT c ll m)) ∧ Below w.heap.size w w' := by
  have hb1 := (Below.refl w.heap.size w).alloc (Nat.le_refl _) (.cells #[.int .i64 c, v] 26)
  have HV := Lib.hid (isTable_any c v ll (w.alloc (.cells #[.int .i64 c, v] 26)) (hr.kept hb1) hl ht)
  have HM := Lib.hid (l4Mode_any m)
  obtain ⟨a, cap, rfl, -⟩ := hr
  unfold fineT
  cases hv : isT c ll with
  | true =>
    rw [hv] at HV
    clear hv
    go_enter Try.func22, Try.ntmps22
    go_wp2_with fail
    refine HV.out.mono ?_
    rintro e w' ⟨rfl, b⟩
    have hb2 := hb1.trans (b.mono hb1.size)
    clear b hb1
    go_wp2_with fail
    refine (HM.out _).mono ?_
    rintro e w'' ⟨rfl, rfl⟩
    go_wp2_with fail
    go_ret
    exact ⟨ret_b (by rw [Bool.true_and]), hb2⟩
  | false =>
    rw [hv] at HV
    clear hv
    go_enter Try.func22, Try.ntmps22
    go_wp2_with fail
    refine HV.out.mono ?_
    rintro e w' ⟨rfl, b⟩
    have hb2 := hb1.trans (b.mono hb1.size)
    clear b hb1
    go_wp2_with fail
    go_ret
    exact ⟨ret_b (by rw [Bool.false_and]), hb2⟩
theorem or_pow (X : Int) (j : Nat) (hj : j ≤ 5) (h0 : 0 ≤ X) (h1 : X < 2 ^ j) : bits .or .i64 X (wrap64 (2 ^ j)) = X + 2 ^ j := by
  have hb : X < ((2 ^ j : Nat) : Int) := by simpa using h1
  rw [IntWalk.wrap64_in _ (by rcases (show j = 0 ∨ j = 1 ∨ j = 2 ∨ j = 3 ∨ j = 4 ∨ j = 5 by omega) with rfl | rfl | rfl | rfl | rfl | rfl <;> decide)]
  rcases (show j = 0 ∨ j = 1 ∨ j = 2 ∨ j = 3 ∨ j = 4 ∨ j = 5 by omega) with rfl | rfl | rfl | rfl | rfl | rfl
  all_goals exact i64_or_low _ h0 (by simp at h1; omega) hb (by decide) (by decide) (by decide)
set_option maxHeartbeats 1600000 in
theorem l4Agree_any (c m : Int) (i k : Nat) (v : Value) (ll : List (List Int)) (w : World) (hr : ReadSS w v ll) (hT : isT c ll = true) (hi : i < ll.length) (hk : k < ll.length) :
    Calls Try.prog 25 #[.agg #[.int .i64 c, v], .int .i64 m, .int .i64 (i : Int), .int .i64 (k : Int)] w fun e w' => e = .returned (.int .i64 (agrTo m (ll.getD i []) (ll.getD k []) c.toNat)) ∧ Below w.heap.size w w' := by
  obtain ⟨hc1, hc5, hl40⟩ := isT_bd hT
  have hri := (isT_row hT hi).1
  have hrk := (isT_row hT hk).1
  have hb1 := (Below.refl w.heap.size w).alloc (Nat.le_refl _) (.cells #[.int .i64 c, v] 26)
  obtain ⟨a, cap, rfl, ha⟩ := hr
  obtain ⟨x, ui, rfl, hxi, hui⟩ := ha i hi
  obtain ⟨x', uk, hx', hxk, huk⟩ := ha k hk
  obtain rfl := Option.some.inj hx'
  obtain ⟨C, rfl⟩ : ∃ C : Nat, c = (C : Int) := ⟨c.toNat, by omega⟩
  obtain ⟨r, hrr⟩ : ∃ r, r = ll.getD i [] := ⟨_, rfl⟩
  obtain ⟨s, hss⟩ : ∃ s, s = ll.getD k [] := ⟨_, rfl⟩
  rw [← hrr] at hui hri ⊢
  rw [← hss] at huk hrk ⊢
  have HUI := Lib.hid hui
  have HUK := Lib.hid huk
  have HRI := Lib.hid hri
  have HRK := Lib.hid hrk
  have HXI := Lib.hid hxi
  have HXK := Lib.hid hxk
  have HE := Lib.hid (eqCells_any m)
  have i0 : (0 : Int) ≤ (i : Int) := by omega
  have i1 : (i : Int) < (ll.length : Int) := by omega
  have k0 : (0 : Int) ≤ (k : Int) := by omega
  have k1 : (k : Int) < (ll.length : Int) := by omega
  rw [show ((C : Int)).toNat = C by omega]
  clear hrr hss hui huk hri hrk hxi hxk ha hx' hT
  go_enter Try.func25, Try.ntmps25
  go_wp2_with fail
  go_loopw [9, 10] (fun xv iv wr => ∃ j : Nat, j ≤ C ∧ iv = .int .i64 (j : Int) ∧ xv = .int .i64 (agrTo m r s j) ∧ Below (w.alloc (.cells #[.int .i64 (C : Int), .slice (some x) ll.length cap] 26)).heap.size (w.alloc (.cells #[.int .i64 (C : Int), .slice (some x) ll.length cap] 26)) wr) (fun _ iv _ => C - (intOf iv).toNat)
  case atStart => exact ⟨0, by omega, rfl, rfl, Below.refl _ _⟩
  case round =>
    obtain ⟨j, hj, rfl, rfl, hb⟩ := hrel
    obtain ⟨hc0, hcv⟩ := box2 hb
    have hb2 := hb1.trans (hb.mono hb1.size)
    have HB := Lib.hid hb
    clear hb
    by_cases hlt : j < C
    · have hy1 := (hb2.cell (World.block_lt_of_cell? w _ HXI.out)).trans HXI.out
      have hy2 := (hb2.cell (World.block_lt_of_cell? w _ HXK.out)).trans HXK.out
      obtain ⟨ai, capi, rfl, hai⟩ := HUI.out
      obtain ⟨ak, capk, rfl, hak⟩ := HUK.out
      have jr : j < r.length := by have := HRI.out; omega
      have js : j < s.length := by have := HRK.out; omega
      obtain ⟨xi, rfl, hci⟩ := hai j jr
      obtain ⟨xk, rfl, hck⟩ := hak j js
      have hz1 := (hb2.cell (World.block_lt_of_cell? w _ hci)).trans hci
      have hz2 := (hb2.cell (World.block_lt_of_cell? w _ hck)).trans hck
      have j0 : (0 : Int) ≤ (j : Int) := by omega
      have j1 : (j : Int) < (r.length : Int) := by omega
      have j2 : (j : Int) < (s.length : Int) := by omega
      have hgr : r[j] = r.getD j 0 := get_getD r j jr
      have hgs : s[j] = s.getD j 0 := get_getD s j js
      rw [hgr] at hz1
      rw [hgs] at hz2
      have HQ := Lib.hid (fun n => (HE.out (r.getD j 0) (s.getD j 0) (wr.drewN n)).mono fun e w' (h : e = _ ∧ _ = w') => And.intro h.1 h.2.symm)
      have HS : Hid (agrTo m r s (j + 1) = agrTo m r s j + (if eqC m (r.getD j 0) (s.getD j 0) = true then 2 ^ j else 0)) := Lib.hid rfl
      obtain ⟨p, hp⟩ : ∃ p, p = r.getD j 0 := ⟨_, rfl⟩
      obtain ⟨q, hq⟩ : ∃ q, q = s.getD j 0 := ⟨_, rfl⟩
      rw [← hp] at hz1 HQ HS
      rw [← hq] at hz2 HQ HS
      obtain ⟨X0, X1⟩ := agrTo_bd m r s j
      obtain ⟨X, hX⟩ : ∃ X, X = agrTo m r s j := ⟨_, rfl⟩
      rw [← hX] at X0 X1 HS ⊢
      clear hp hq hX hai hak hci hck hgr hgs
      cases he : eqC m p q with
      | true =>
        rw [he] at HQ HS
        clear he
        go_wp2_with fail
        go_quiet ((go_at_call 53; exact Calls.quiet_of_same (HQ.out _)))
        go_wp2_with fail
        go_roundw
        case rel => exact ⟨j + 1, by omega, by go_num, by rw [HS.out, or_pow X j (by omega) X0 X1]; simp, below_drewN HB.out _⟩
        case measure => simp [intOf]; omega
      | false =>
        rw [he] at HQ HS
        clear he
        go_wp2_with fail
        go_quiet ((go_at_call 53; exact Calls.quiet_of_same (HQ.out _)))
        go_wp2_with fail
        go_roundw
        case rel => exact ⟨j + 1, by omega, by go_num, by rw [HS.out]; simp, below_drewN HB.out _⟩
        case measure => simp [intOf]; omega
    · obtain rfl : j = C := by omega
      go_wp2_with fail
      go_ret
      exact ⟨rfl, hb2⟩
end Go.Proofs.Ytfndnaldgaaieaa
namespace Go.Proofs.Ytfndnaldgaaieaa
open Go.RowKit

set_option maxHeartbeats 800000 in
theorem l2Has_any (v : Value) (l : List Int) (x : Int) (w : World) (hr : ReadI w v l) (hl : l.length ≤ 1000000000) :
    Calls Try.prog 52 #[v, .int .i64 x] w fun e w' => e = .returned (.bool (decide (x ∈ l))) ∧ w = w' := by
  obtain ⟨a, cap, rfl, ha⟩ := hr
  have HA := Lib.hid ha
  clear ha
  go_enter Try.func52, Try.ntmps52
  go_wp2_with fail
  go_loop [5] (fun iv => ∃ k : Nat, k ≤ l.length ∧ iv = .int .i64 (k : Int) ∧ Hid (x ∉ l.take k)) (fun iv => l.length - (intOf iv).toNat)
  case atStart => exact ⟨0, by omega, rfl, Lib.hid (by simp)⟩
  case round =>
    obtain ⟨k, hk, rfl, hno⟩ := hrel
    by_cases hlt : k < l.length
    · obtain ⟨b, rfl, hb⟩ := HA.out k hlt
      have z0 : (0 : Int) ≤ (k : Int) := by omega
      have z1 : (k : Int) < (l.length : Int) := by omega
      have HM := Lib.hid (List.getElem_mem hlt)
      have HT := Lib.hid (List.take_succ_eq_append_getElem hlt)
      obtain ⟨y, hy⟩ : ∃ y, y = l[k] := ⟨_, rfl⟩
      rw [← hy] at hb HM HT
      clear hy
      by_cases he : y = x
      · subst he
        go_wp2_with fail
        go_ret
        exact ⟨ret_b (by rw [decide_eq_true HM.out]), rfl⟩
      · have e0 : (y == x) = false := by simpa using he
        have HN : Hid (x ∉ l.take (k + 1)) := Lib.hid (by rw [HT.out, List.mem_append]; intro h; rcases h with h | h; exact hno.out h; simp at h; exact he h.symm)
        clear he
        go_wp2_with fail
        go_round
        case rel => exact ⟨k + 1, by omega, by go_num, HN⟩
        case measure => simp [intOf]; omega
    · obtain rfl : k = l.length := by omega
      have HX : Hid (x ∉ l) := Lib.hid (by have := hno.out; rwa [List.take_length] at this)
      go_wp2_with fail
      go_ret
      exact ⟨ret_b (by rw [decide_eq_false HX.out]), rfl⟩
/-- What the list is after k rounds, and whether x has been put. -/
def putTo (l : List Int) (x : Int) : Nat → Bool × List Int
  | 0 => (false, [])
  | k + 1 => if (putTo l x k).1 = false ∧ x < l.getD k 0 then (true, (putTo l x k).2 ++ [x] ++ [l.getD k 0]) else ((putTo l x k).1, (putTo l x k).2 ++ [l.getD k 0])
def put4 (l : List Int) (x : Int) : List Int := if x ∈ l then l else if (putTo l x l.length).1 = true then (putTo l x l.length).2 else (putTo l x l.length).2 ++ [x]
theorem putTo_len (l : List Int) (x : Int) (k : Nat) : (putTo l x k).2.length ≤ k + (if (putTo l x k).1 = true then 1 else 0) := by
  induction k with
  | zero => simp [putTo]
  | succ k ih =>
    unfold putTo
    split
    · rename_i h
      rw [h.1] at ih
      simp at ih ⊢; omega
    · simp only [List.length_append, List.length_cons, List.length_nil]; omega
theorem put4_len (l : List Int) (x : Int) : (put4 l x).length ≤ l.length + 1 := by
  have h := putTo_len l x l.length
  unfold put4
  split
  · omega
  · split
    · rename_i h1; rw [if_pos h1] at h; exact h
    · rename_i h1; rw [if_neg h1] at h; simp; omega
end Go.Proofs.Ytfndnaldgaaieaa
