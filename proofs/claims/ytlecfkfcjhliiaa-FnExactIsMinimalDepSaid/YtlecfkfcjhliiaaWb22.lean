/- Texts of this claim, merged: MvB, CvC, ImJ, Fam, ImH. Conditions: as stated. -/
import Derived.Test.YtlecfkfcjhliiaaMvAm
import Derived.Test.YtlecfkfcjhliiaaWb11
import Derived.Test.YtlecfkfcjhliiaaWb12
import Derived.Test.YtlecfkfcjhliiaaWb7
import Derived.Test.YtlecfkfcjhliiaaParDm
import Derived.Maps.AppendAt
import Derived.Test.YtlecfkfcjhliiaaWb15
import Derived.Test.YtlecfkfcjhliiaaWb19
import Derived.Test.YtlecfkfcjhliiaaDdRm
import Derived.Test.YtlecfkfcjhliiaaWb3
import Derived.Test.YtlecfkfcjhliiaaWb14
import Derived.Laws.CopyOwn
import Derived.Laws.ResultCell
namespace Go.Proofs.Ytlecfkfcjhliiaa
open Go.RowKit

noncomputable def imB (c : Int) (ll : List (List Int)) (m l r : Int) : Bool := okD c ll m l r && minN c.toNat ll m l.toNat r.toNat
theorem depB_small {c l r : Int} (h : depB c l r = true) : ∃ C L R : Nat, c = (C : Int) ∧ l = (L : Int) ∧ r = (R : Int) ∧ 1 ≤ C ∧ C ≤ 5 ∧ L < 2 ^ C ∧ L < 32 ∧ R < C := by
  obtain ⟨⟨h1, h5⟩, ha, h0, hr⟩ := depB_iff.1 h
  unfold isA at ha
  rw [decide_eq_true_iff] at ha
  obtain ⟨-, l0, l1⟩ := ha
  have e : ((2 ^ c.toNat : Nat) : Int) = (2 : Int) ^ c.toNat := by rw [Int.natCast_pow]; rfl
  have h32 := two5 (C := c.toNat) (by omega)
  exact ⟨c.toNat, l.toNat, r.toNat, by omega, by omega, by omega, by omega, by omega, by omega, by omega, by omega⟩
section
set_option maxRecDepth 20000
set_option maxHeartbeats 1600000
theorem isMinimalDep_any (c m l r : Int) (v : Value) (ll : List (List Int)) (w : World) (hr : ReadSS w v ll) (hl : ll.length ≤ 1048576) (ht : ∀ i, i < ll.length → (ll.getD i []).length ≤ 1048576) :
    Calls Try.prog 5 #[.agg #[.int .i64 c, v], .int .i64 m, .agg #[.int .i64 l, .int .i64 r]] w fun e w' => e = .returned (.bool (imB c ll m l r)) ∧ Below w.heap.size w w' := by
  have HF := Lib.hid (fun w' (hb : Below w.heap.size w w') => l4Fine_any c m v ll w' (hr.kept hb) hl ht)
  have HD := Lib.hid (isDep_any c l r)
  have HP := Lib.hid (fun (C L R : Nat) w' (hb : Below w.heap.size w w') hT (hL : L < 32) (hR : R < 5) => l7Minimal_any C m L R v ll w' (hr.kept hb) hT hL hR)
  obtain ⟨a, cap, rfl, -⟩ := hr
  have hb1 := (Below.refl w.heap.size w).alloc (Nat.le_refl _) (.cells #[.int .i64 c, .slice a ll.length cap] 29)
  have hb2 := hb1.alloc hb1.size (.cells #[.int .i64 l, .int .i64 r] 31)
  have HB2 := Lib.hid hb2
  have HTD := Lib.hid (TDc.mk' w 29 31 c (.slice a ll.length cap) l r)
  obtain ⟨⟨c0, c1⟩, d0, d1⟩ := HTD.out
  clear hb1 hb2 ht
  cases hf : fineT c ll m with
  | false =>
    have HE : Hid (imB c ll m l r = false) := Lib.hid (by unfold imB okD; rw [hf]; rfl)
    rw [hf] at HF
    clear hf
    go_enter Try.func5, Try.ntmps5
    go_wp2_with fail
    refine (HF.out _ HB2.out).mono ?_
    rintro e w1 ⟨rfl, b1⟩
    have hb2 := HB2.out.trans (b1.mono HB2.out.size)
    go_wp2_with fail
    go_ret
    exact ⟨by rw [HE.out]; rfl, hb2⟩
  | true =>
    rw [hf] at HF
    cases hd : depB c l r with
    | false =>
      have HE : Hid (imB c ll m l r = false) := Lib.hid (by unfold imB okD; rw [hd]; simp)
      rw [hd] at HD
      clear hf hd
      go_enter Try.func5, Try.ntmps5
      go_wp2_with fail
      refine (HF.out _ HB2.out).mono ?_
      rintro e w1 ⟨rfl, b1⟩
      have hb2 := HB2.out.trans (b1.mono HB2.out.size)
      have HT1 := Lib.hid (HTD.out.kept b1)
      clear b1 c0 c1 d0 d1
      obtain ⟨⟨c0, c1⟩, d0, d1⟩ := HT1.out
      go_wp2_with fail
      refine (HD.out _).mono ?_
      rintro e w2 ⟨rfl, b2⟩
      have hb4 := hb2.trans (b2.mono hb2.size)
      go_wp2_with fail
      go_ret
      exact ⟨by rw [HE.out]; rfl, hb4⟩
    | true =>
      rw [hd] at HD
      have hT := fineT_isT hf
      have hok : okD c ll m l r = true := by unfold okD; rw [hf, hd]; rfl
      obtain ⟨C, L, R, rfl, rfl, rfl, hC1, hC5, -, hL, hR⟩ := depB_small hd
      have HQ := Lib.hid (fun w' hb => HP.out C L R w' hb hT hL (by omega))
      have HE : Hid (imB (C : Int) ll m (L : Int) (R : Int) = minN C ll m L R) := Lib.hid (by unfold imB; rw [hok, Bool.true_and]; rfl)
      obtain ⟨x, hx⟩ : ∃ x, x = minN C ll m L R := ⟨_, rfl⟩
      rw [← hx] at HQ HE
      clear hf hd hT hok hx HP
      go_enter Try.func5, Try.ntmps5
      go_wp2_with fail
      refine (HF.out _ HB2.out).mono ?_
      rintro e w1 ⟨rfl, b1⟩
      have hb2 := HB2.out.trans (b1.mono HB2.out.size)
      have HT1 := Lib.hid (HTD.out.kept b1)
      clear b1 c0 c1 d0 d1
      obtain ⟨⟨c0, c1⟩, d0, d1⟩ := HT1.out
      go_wp2_with fail
      refine (HD.out _).mono ?_
      rintro e w2 ⟨rfl, b2⟩
      have hb4 := hb2.trans (b2.mono hb2.size)
      have HT2 := Lib.hid (HT1.out.kept b2)
      clear b2 c0 c1 d0 d1
      obtain ⟨⟨c0, c1⟩, d0, d1⟩ := HT2.out
      go_wp2_with fail
      refine (HQ.out _ hb4).mono ?_
      rintro e w3 ⟨rfl, b3⟩
      have hb5 := hb4.trans (b3.mono hb4.size)
      go_wp2_with fail
      go_ret
      exact ⟨ret_b HE.out, hb5⟩
/-- No two rows agree in all of the set's columns. -/
def uniqB (c : Int) (ll : List (List Int)) (m s : Int) : Bool := fineT c ll m && isA c s && decide ((clSt c.toNat ll m s ll.length).1.length = 0)
end
/-- The border; the keys. -/
noncomputable def vbL (c : Int) (ll : List (List Int)) (m q : Int) : List Int := if fineT c ll m = true ∧ 0 ≤ q ∧ q < c then brdL c.toNat ll m q.toNat else []
def mkL (c : Int) (ll : List (List Int)) (m : Int) : List Int := minS (if fineT c ll m = true then brdTo (fun x => uniqB c ll m (x : Int)) (2 ^ c.toNat) else [])
noncomputable def mdL (c : Int) (ll : List (List Int)) (m : Int) : List (Int × Int) := if fineT c ll m = true then minD c.toNat ll m else []
noncomputable def apL (c : Int) (ll : List (List Int)) (m rows : Int) : List (Int × Int) := if fineT c ll m = true ∧ 0 ≤ rows then appD c.toNat ll m rows else []
theorem mdL_len (c : Int) (ll : List (List Int)) (m : Int) : (mdL c ll m).length ≤ 160 := by
  unfold mdL
  split
  · rename_i h
    have := isT_bd (fineT_isT h)
    exact minD_len (by omega)
  · simp
theorem ownD_new (w : World) (B : Nat) (hB : B ≤ w.heap.size) : OwnD (w.alloc (.cells #[] 31)) B (.slice (some ⟨w.heap.size, 0, none⟩) 0 0) [] := World.ownsRow_made w #[] 0 hB (by unfold maxLen; omega) rfl
theorem mdIn_succ (f : Int → Nat → Bool) (ps : List Int) (r : Nat) (l0 : List (Int × Int)) (i : Nat) : mdIn f ps r l0 (i + 1) = if f (ps.getD i 0) r = true then mdIn f ps r l0 i ++ [(ps.getD i 0, (r : Int))] else mdIn f ps r l0 i := rfl
section
set_option maxRecDepth 20000
set_option maxHeartbeats 3200000
end
end Go.Proofs.Ytlecfkfcjhliiaa
namespace Go.Proofs.Ytlecfkfcjhliiaa
open Go.RowKit

theorem candL_len (C : Nat) (hC : C ≤ 5) : (candL C).length ≤ 160 := cand_len C C hC (Nat.le_refl _)
/-- A table in a block of its own, a number in the next one; a third behind it. -/
structure Env2 (w : World) (b : Nat) (c m : Int) (v : Value) (ll : List (List Int)) : Prop where
  t0 : w.cell? ⟨b, 0, none⟩ = some (.int .i64 c)
  t1 : w.cell? ⟨b, 1, none⟩ = some v
  m0 : w.cell? ⟨b + 1, 0, none⟩ = some (.int .i64 m)
  s : ReadSS w v ll
theorem Env2.kept {w w' : World} {b : Nat} {c m : Int} {v : Value} {ll : List (List Int)} (h : Env2 w b c m v ll) (hb : Below w.heap.size w w') : Env2 w' b c m v ll :=
  ⟨(hb.cell (World.block_lt_of_cell? _ _ h.t0)).trans h.t0, (hb.cell (World.block_lt_of_cell? _ _ h.t1)).trans h.t1, (hb.cell (World.block_lt_of_cell? _ _ h.m0)).trans h.m0, h.s.kept hb⟩
theorem Env2.mk' {w : World} {c m : Int} {v : Value} {ll : List (List Int)} (h : ReadSS w v ll) (T T' : TypeId) : Env2 ((w.alloc (.cells #[.int .i64 c, v] T)).alloc (.cells #[.int .i64 m] T')) w.heap.size c m v ll := by
  have hb1 := (Below.refl w.heap.size w).alloc (Nat.le_refl _) (.cells #[.int .i64 c, v] T)
  obtain ⟨c0, c1⟩ := zero2 w T (.int .i64 c) v
  have hb2 := (Below.refl (w.alloc (.cells #[.int .i64 c, v] T)).heap.size (w.alloc (.cells #[.int .i64 c, v] T))).alloc (Nat.le_refl _) (.cells #[.int .i64 m] T')
  have hm := one_at (w.alloc (.cells #[.int .i64 c, v] T)) T' (.int .i64 m)
  rw [World.size_alloc] at hm
  exact ⟨(hb2.cell (World.block_lt_of_cell? _ _ c0)).trans c0, (hb2.cell (World.block_lt_of_cell? _ _ c1)).trans c1, hm, (h.kept hb1).kept hb2⟩
theorem cand_wf {C : Nat} (hC : C ≤ 5) {x : Int × Int} (h : x ∈ candL C) : (Lit.int .i64 x.1).wf = true ∧ (Lit.int .i64 x.2).wf = true := by
  obtain ⟨r, r1, S, r2, -, rfl⟩ := (mdOut_mem _ _ _ _).1 h
  obtain ⟨X, rfl, hX⟩ := parts_small _ S r2
  have k1 : ∀ X : Fin 32, (Lit.int .i64 ((X.val : Nat) : Int)).wf = true := by decide +kernel
  exact ⟨k1 ⟨X, hX⟩, k1 ⟨r, by omega⟩⟩
end Go.Proofs.Ytlecfkfcjhliiaa
namespace Go.Proofs.Ytlecfkfcjhliiaa
open Go.RowKit

/-- The marks of a family. -/
def famC (f : Nat → Bool) : Array Value := ((List.range 32).map (fun i => Value.bool (f i))).toArray
theorem famC_size (f : Nat → Bool) : (famC f).size = 32 := by simp [famC]
theorem famC_get (f : Nat → Bool) (i : Nat) (h : i < 32) : (famC f)[i]? = some (.bool (f i)) := by
  simp [famC, h]
theorem famC_none : famC (fun _ => false) = Array.replicate 32 (.bool false) := by rfl
theorem famC_set (f : Nat → Bool) (i : Nat) (b : Bool) : (famC f).setIfInBounds i (.bool b) = famC (fun j => if j = i then b else f j) := by
  apply Array.ext_getElem?
  intro k
  rw [Array.getElem?_setIfInBounds]
  by_cases hk : k < 32
  · rw [famC_get _ k hk, famC_get _ k hk, famC_size]
    by_cases h : i = k
    · subst h; simp [hk]
    · have h' : ¬ k = i := fun e => h e.symm
      simp [h, h']
  · have e1 : (famC f)[k]? = none := by rw [Array.getElem?_eq_none]; rw [famC_size]; omega
    have e2 : (famC fun j => if j = i then b else f j)[k]? = none := by rw [Array.getElem?_eq_none]; rw [famC_size]; omega
    rw [e1, e2, famC_size]
    by_cases h : i = k
    · subst h; simp [hk]
    · simp [h]
theorem famC_congr {f g : Nat → Bool} (h : ∀ i, i < 32 → f i = g i) : famC f = famC g := by
  unfold famC
  congr 1
  apply List.map_congr_left
  intro i hi
  rw [h i (List.mem_range.mp hi)]
theorem famC_one (f : Nat → Bool) : (famC f).all (·.oneCell') = true := by
  simp [famC, Value.oneCell']
/-- The sets of a family in ascending order, those below n. -/
def lstTo (f : Nat → Bool) : Nat → List Int
  | 0 => []
  | n + 1 => if f n = true then lstTo f n ++ [(n : Int)] else lstTo f n
def lstF (f : Nat → Bool) : List Int := lstTo f 32
theorem lstTo_len (f : Nat → Bool) (n : Nat) : (lstTo f n).length ≤ n := by
  induction n with
  | zero => simp [lstTo]
  | succ n ih =>
    unfold lstTo
    split
    · simp; omega
    · omega
theorem boolOne (w : World) : (sizeOf 4).run Try.prog w = .ok 1 w := by
  have h : (Try.prog.info? 4).map (·.size) = some 1 := by kernel_rfl
  cases hq : Try.prog.info? 4 with
  | none => simp [hq] at h
  | some i => simp only [hq, Option.map_some, Option.some.injEq] at h; simp [sizeOf, typeInfo, hq, h]
end Go.Proofs.Ytlecfkfcjhliiaa
namespace Go.Proofs.Ytlecfkfcjhliiaa
open Go.RowKit

def noF : Nat → Bool := fun _ => false
end Go.Proofs.Ytlecfkfcjhliiaa
namespace Go.Proofs.Ytlecfkfcjhliiaa
open Go.RowKit

/-- A valid table that has this column; that has this row. -/
def colB (c : Int) (ll : List (List Int)) (q : Int) : Bool := isT c ll && decide (0 ≤ q ∧ q ≤ c - 1)
def atRowB (c : Int) (ll : List (List Int)) (i : Int) : Bool := isT c ll && decide (0 ≤ i ∧ i ≤ (ll.length : Int) - 1)
end Go.Proofs.Ytlecfkfcjhliiaa
