/- Texts of this claim, merged: SeaH, SeaI, SeaJ, SeaM, DepO, SeaO. Conditions: as stated. -/
import Derived.Test.YtigecfbmdbpbhaaGreatSb12
import Derived.Test.YtigecfbmdbpbhaaGreatSb13
import Derived.Test.YtigecfbmdbpbhaaGreatSb23
import Derived.Test.YtigecfbmdbpbhaaGreatSb14
import Derived.Test.YtigecfbmdbpbhaaGreatSb11
import Derived.Lib.SmallJoins
import Derived.Deep.SlicePairs
namespace Go.Proofs.YtigecfbmdbpbhaaGreat
open Go.RowKit

def szD2 (a b : Nat) : Int := if (a : Int) + (b : Int) ≤ 1048576 then 1048576 - (a : Int) - (b : Int) else -1
section
set_option maxRecDepth 20000
set_option maxHeartbeats 1600000
theorem szSearch_any (c m at_ t : Int) (v f : Value) (ll : List (List Int)) (F : List (Int × Int)) (w : World) (hr : ReadSS w v ll) (hs : Short ll) (hf : ReadD w f F) (hF : F.length ≤ 9223372036854775807) :
    Calls Tryz.prog 4 #[srcV c v m at_ f t, .int .i64 1048576] w fun e w' => e = .returned (.int .i64 (szD2 (szOf ll) F.length)) ∧ Below w.heap.size w w' := by
  have HT := Lib.hid (fun w' (hb : Below w.heap.size w w') => szTable_any c v ll w' (hr.kept hb) hs 1048576 (by omega) (by omega))
  have HD := Lib.hid (fun left w' (hb : Below w.heap.size w w') h0 h1 => szDepS_any f F w' (hf.kept hb) left h0 h1 hF)
  have hb1 := (Below.refl w.heap.size w).alloc (Nat.le_refl _) (.cells #[.int .i64 c, v, .int .i64 m, .int .i64 at_, f, .int .i64 t] 27)
  have HSB := Lib.hid (SBx.mk' w 27 c v m at_ f t)
  have HB1 := Lib.hid hb1
  obtain ⟨a, cap, rfl, -⟩ := hr
  obtain ⟨af, capf, rfl, -⟩ := hf
  obtain ⟨⟨c0, c1⟩, ⟨c2, c3⟩, c4, c5⟩ := HSB.out
  obtain ⟨A, hA⟩ : ∃ A, A = szOf ll := ⟨_, rfl⟩
  rw [← hA] at HT ⊢
  unfold srcV
  clear hb1 hs hA
  by_cases h1 : (A : Int) ≤ 1048576
  · rw [szD_ok h1] at HT
    have hn : ¬ (1048576 - (A : Int) < 0) := by omega
    by_cases h2 : (A : Int) + (F.length : Int) ≤ 1048576
    · have HE : Hid (szD2 A F.length = 1048576 - (A : Int) - (F.length : Int)) := Lib.hid (by unfold szD2; rw [if_pos h2])
      have hn2 : ¬ (1048576 - (A : Int) - (F.length : Int) < 0) := by omega
      have HDX := Lib.hid (fun w' hb => HD.out (1048576 - (A : Int)) w' hb (by omega) (by omega))
      rw [szD_ok (by omega)] at HDX
      go_enter Tryz.func4, Tryz.ntmps4
      go_wp2_with fail
      refine (HT.out _ HB1.out).mono ?_
      rintro e w1 ⟨rfl, b1⟩
      have hb3 := HB1.out.trans (b1.mono HB1.out.size)
      have HS1 := Lib.hid (HSB.out.kept b1)
      clear b1 c0 c1 c2 c3 c4 c5
      obtain ⟨⟨c0, c1⟩, ⟨c2, c3⟩, c4, c5⟩ := HS1.out
      go_wp2_with fail
      refine (HDX.out _ hb3).mono ?_
      rintro e w2 ⟨rfl, rfl⟩
      go_wp2_with fail
      go_ret
      exact ⟨ret_int HE.out.symm, hb3⟩
    · have HE : Hid (szD2 A F.length = -1) := Lib.hid (by unfold szD2; rw [if_neg h2])
      have HDX := Lib.hid (fun w' hb => HD.out (1048576 - (A : Int)) w' hb (by omega) (by omega))
      rw [szD_no (by omega)] at HDX
      go_enter Tryz.func4, Tryz.ntmps4
      go_wp2_with fail
      refine (HT.out _ HB1.out).mono ?_
      rintro e w1 ⟨rfl, b1⟩
      have hb3 := HB1.out.trans (b1.mono HB1.out.size)
      have HS1 := Lib.hid (HSB.out.kept b1)
      clear b1 c0 c1 c2 c3 c4 c5
      obtain ⟨⟨c0, c1⟩, ⟨c2, c3⟩, c4, c5⟩ := HS1.out
      go_wp2_with fail
      refine (HDX.out _ hb3).mono ?_
      rintro e w2 ⟨rfl, rfl⟩
      go_wp2_with fail
      go_ret
      exact ⟨ret_int HE.out.symm, hb3⟩
  · rw [szD_no h1] at HT
    have HE : Hid (szD2 A F.length = -1) := Lib.hid (by unfold szD2; rw [if_neg (by omega)])
    go_enter Tryz.func4, Tryz.ntmps4
    go_wp2_with fail
    refine (HT.out _ HB1.out).mono ?_
    rintro e w1 ⟨rfl, b1⟩
    have hb3 := HB1.out.trans (b1.mono HB1.out.size)
    go_wp2_with fail
    go_ret
    exact ⟨ret_int HE.out.symm, hb3⟩
theorem eqSearch_same (c m at_ t : Int) (v v' f f' : Value) (ll : List (List Int)) (F : List (Int × Int)) (w : World) (hr : ReadSS w v ll) (hr' : ReadSS w v' ll) (hl : ll.length ≤ 1000000000) (ht : ∀ i, i < ll.length → (ll.getD i []).length ≤ 1000000000) (hf : ReadD w f F) (hf' : ReadD w f' F) (hF : F.length ≤ 1048576) :
    Calls Tryz.prog 8 #[srcV c v m at_ f t, srcV c v' m at_ f' t] w fun e w' => e = .returned (.bool true) ∧ Below w.heap.size w w' := by
  have HT := Lib.hid (fun w' (hb : Below w.heap.size w w') => eqTable_any c c v v' ll ll w' (hr.kept hb) (hr'.kept hb) hl ht)
  rw [eqTb_self] at HT
  have HD := Lib.hid (fun w' (hb : Below w.heap.size w w') => eqDepS_same f f' F w' (hf.kept hb) (hf'.kept hb) hF)
  have hb1 := (Below.refl w.heap.size w).alloc (Nat.le_refl _) (.cells #[.int .i64 c, v, .int .i64 m, .int .i64 at_, f, .int .i64 t] 32)
  have h12 := (Below.refl (w.alloc (.cells #[.int .i64 c, v, .int .i64 m, .int .i64 at_, f, .int .i64 t] 32)).heap.size (w.alloc (.cells #[.int .i64 c, v, .int .i64 m, .int .i64 at_, f, .int .i64 t] 32))).alloc (Nat.le_refl _) (.cells #[.int .i64 c, v', .int .i64 m, .int .i64 at_, f', .int .i64 t] 32)
  have hb2 := hb1.trans (h12.mono hb1.size)
  have HSA := Lib.hid ((SBx.mk' w 32 c v m at_ f t).kept h12)
  have hs2 := SBx.mk' (w.alloc (.cells #[.int .i64 c, v, .int .i64 m, .int .i64 at_, f, .int .i64 t] 32)) 32 c v' m at_ f' t
  rw [World.size_alloc] at hs2
  have HSB := Lib.hid hs2
  have HB := Lib.hid hb2
  obtain ⟨a, cap, rfl, -⟩ := hr
  obtain ⟨a', cap', rfl, -⟩ := hr'
  obtain ⟨af, capf, rfl, -⟩ := hf
  obtain ⟨af', capf', rfl, -⟩ := hf'
  obtain ⟨⟨c0, c1⟩, ⟨c2, c3⟩, c4, c5⟩ := HSA.out
  obtain ⟨⟨d0, d1⟩, ⟨d2, d3⟩, d4, d5⟩ := HSB.out
  have k1 : (m != m) = false := bne_self_eq_false _
  have k2 : (at_ != at_) = false := bne_self_eq_false _
  have k3 : (t != t) = false := bne_self_eq_false _
  unfold srcV
  clear hb1 h12 hb2 hs2 ht
  go_enter Tryz.func8, Tryz.ntmps8
  go_wp2_with fail
  refine (HT.out _ HB.out).mono ?_
  rintro e w1 ⟨rfl, b1⟩
  have hb3 := HB.out.trans (b1.mono HB.out.size)
  have HS1 := Lib.hid (HSA.out.kept b1)
  have HS2 := Lib.hid (HSB.out.kept b1)
  clear b1 c0 c1 c2 c3 c4 c5 d0 d1 d2 d3 d4 d5
  obtain ⟨⟨c0, c1⟩, ⟨c2, c3⟩, c4, c5⟩ := HS1.out
  obtain ⟨⟨d0, d1⟩, ⟨d2, d3⟩, d4, d5⟩ := HS2.out
  go_wp2_with fail
  refine (HD.out _ hb3).mono ?_
  rintro e w2 ⟨rfl, b2⟩
  have hb4 := hb3.trans (b2.mono hb3.size)
  have HS3 := Lib.hid (HS1.out.kept b2)
  have HS4 := Lib.hid (HS2.out.kept b2)
  clear b2 c0 c1 c2 c3 c4 c5 d0 d1 d2 d3 d4 d5
  obtain ⟨⟨c0, c1⟩, ⟨c2, c3⟩, c4, c5⟩ := HS3.out
  obtain ⟨⟨d0, d1⟩, ⟨d2, d3⟩, d4, d5⟩ := HS4.out
  go_wp2_with fail
  go_ret
  exact ⟨rfl, hb4⟩
end
end Go.Proofs.YtigecfbmdbpbhaaGreat
namespace Go.Proofs.YtigecfbmdbpbhaaGreat
open Go.RowKit

section
set_option maxRecDepth 20000
set_option maxHeartbeats 400000
theorem toSearch_any (c m at_ t : Int) (v f : Value) (ll : List (List Int)) (F : List (Int × Int)) (w : World) (hr : ReadSS w v ll) (hl : ll.length ≤ 1048576) (ht : ∀ i, i < ll.length → (ll.getD i []).length ≤ 1048576) (hf : ReadD w f F) (hF : F.length ≤ 1048576) :
    Calls Tryz.prog 6 #[srcV c v m at_ f t] w (RetSea c m at_ t ll F w) := by
  have HT := Lib.hid (fun w' (hb : Below w.heap.size w w') => toTable_any c v ll w' (hr.kept hb) hl ht)
  have HD := Lib.hid (fun w' (hb : Below w.heap.size w w') => toDepS_any f F w' (hf.kept hb) hF)
  obtain ⟨a, cap, rfl, -⟩ := hr
  obtain ⟨af, capf, rfl, -⟩ := hf
  obtain ⟨W0, hW0⟩ : ∃ W0, W0 = w.alloc (.cells #[.int .i64 c, .slice a ll.length cap, .int .i64 m, .int .i64 at_, .slice af F.length capf, .int .i64 t] 27) := ⟨_, rfl⟩
  have hz : Obj := .cells #[.int .i64 0, .slice none 0 0, .int .i64 0, .int .i64 0, .slice none 0 0, .int .i64 0] 32
  have hb1 := (Below.refl w.heap.size w).alloc (Nat.le_refl _) (.cells #[.int .i64 c, .slice a ll.length cap, .int .i64 m, .int .i64 at_, .slice af F.length capf, .int .i64 t] 27)
  have h2 := (Below.refl W0.heap.size W0).alloc (Nat.le_refl _) (.cells #[.int .i64 0, .slice none 0 0, .int .i64 0, .int .i64 0, .slice none 0 0, .int .i64 0] 32)
  have h3 := h2.alloc h2.size (.cells #[.int .i64 0, .slice none 0 0, .int .i64 0, .int .i64 0, .slice none 0 0, .int .i64 0] 32)
  have h23 := (Below.refl (W0.alloc (.cells #[.int .i64 0, .slice none 0 0, .int .i64 0, .int .i64 0, .slice none 0 0, .int .i64 0] 32)).heap.size _).alloc (Nat.le_refl _) (.cells #[.int .i64 0, .slice none 0 0, .int .i64 0, .int .i64 0, .slice none 0 0, .int .i64 0] 32)
  have hr1 : SBI _ W0.heap.size _ _ _ _ _ _ := heap_alloc_new W0 (.cells #[.int .i64 0, .slice none 0 0, .int .i64 0, .int .i64 0, .slice none 0 0, .int .i64 0] 32)
  have hr2 : SBI _ _ _ _ _ _ _ _ := heap_alloc_new (W0.alloc (.cells #[.int .i64 0, .slice none 0 0, .int .i64 0, .int .i64 0, .slice none 0 0, .int .i64 0] 32)) (.cells #[.int .i64 0, .slice none 0 0, .int .i64 0, .int .i64 0, .slice none 0 0, .int .i64 0] 32)
  have hs0 : W0.heap.size = w.heap.size + 1 := by rw [hW0]; simp
  rw [World.size_alloc, hs0] at hr2
  have HR1 := Lib.hid (hr1.kept h23)
  rw [hs0] at HR1
  have HR2 := Lib.hid hr2
  have HS0 := SBx.mk' w 27 c (.slice a ll.length cap) m at_ (.slice af F.length capf) t
  rw [← hW0] at hb1 HS0
  have hb3 := hb1.trans (h3.mono hb1.size)
  have HSB := Lib.hid (HS0.kept h3)
  have HB := Lib.hid hb3
  rw [hW0] at HSB HB HR1 HR2
  obtain ⟨⟨c0, c1⟩, ⟨c2, c3⟩, c4, c5⟩ := HSB.out
  unfold srcV
  clear hb1 h2 h3 h23 hr1 hr2 hs0 HS0 hb3 ht hz hW0
  go_enter Tryz.func6, Tryz.ntmps6
  go_wp2_with fail
  refine (HT.out _ HB.out).mono ?_
  rintro e w1 ⟨u, rfl, ou, b1⟩
  have hb4 := HB.out.trans (b1.mono HB.out.size)
  have HS1 := Lib.hid (HSB.out.kept b1)
  have HX1 := Lib.hid (HR2.out.kept b1)
  have HY1 := Lib.hid (HR1.out.kept b1)
  obtain ⟨au, capu, rfl, -⟩ := ou.read
  have hsz := HB.out.size
  have hlt2 := HR2.out.lt
  have OU := Lib.hid ou
  clear b1 c0 c1 c2 c3 c4 c5 ou
  obtain ⟨⟨c0, c1⟩, ⟨c2, c3⟩, c4, c5⟩ := HS1.out
  obtain ⟨⟨d0, d1, d2, d3, d4, d5⟩, f0, f1, f2, f3, f4, f5⟩ := HX1.out.cells
  have hB1 : w.heap.size + 1 + 1 < _ := HR2.out.lt
  have hz1 : w.heap.size + 1 + 1 < w1.heap.size := HX1.out.lt
  have hx2 := SBI.four (b0 := .int .i64 c) (b1 := .slice au ll.length capu) (b2 := .int .i64 m) (b3 := .int .i64 at_) HX1.out
  have hb5 := four_below (b := w.heap.size + 1 + 1) (.int .i64 c) (.slice au ll.length capu) (.int .i64 m) (.int .i64 at_) hb4 (by omega)
  have hu2 := OU.out.same (four_same w1 (b := w.heap.size + 1 + 1) (.int .i64 c) (.slice au ll.length capu) (.int .i64 m) (.int .i64 at_) hB1)
  have hy2 := HY1.out.eqb (four_other w1 (w.heap.size + 1 + 1) (.int .i64 c) (.slice au ll.length capu) (.int .i64 m) (.int .i64 at_) (by omega))
  have ht2 := cell_eqb c5 (four_other w1 (w.heap.size + 1 + 1) (.int .i64 c) (.slice au ll.length capu) (.int .i64 m) (.int .i64 at_) (by omega))
  have HX2 := Lib.hid hx2
  have HB5 := Lib.hid hb5
  have HU2 := Lib.hid hu2
  have HY2 := Lib.hid hy2
  have HT2 := Lib.hid ht2
  clear hx2 hb5 hu2 hy2 ht2 hb4
  go_wp2_with fail
  refine (HD.out _ HB5.out).mono ?_
  rintro e w3 ⟨g, rfl, og, b3⟩
  have HX3 := Lib.hid (HX2.out.kept b3)
  have HY3 := Lib.hid (HY2.out.kept b3)
  have HB6 := Lib.hid (HB5.out.trans (b3.mono HB5.out.size))
  have c5' := cell_in HT2.out b3
  have HU3 := Lib.hid (HU2.out.same (Below.keeps b3 (by simp)))
  clear c0 c1 c2 c3 c4 c5 d0 d1 d2 d3 d4 d5 f0 f1 f2 f3 f4 f5 HX1 HY1 HX2 HY2 HT2 HS1 HR1 HR2 HSB HB hsz hlt2 HT HD OU
  obtain ⟨⟨d0, d1, d2, d3, d4, d5⟩, f0, f1, f2, f3, f4, f5⟩ := HX3.out.cells
  obtain ⟨⟨e0, e1, e2, e3, e4, e5⟩, g0, g1, g2, g3, g4, g5⟩ := HY3.out.cells
  obtain ⟨ag, capg, rfl⟩ := og.shape
  have og1 : OwnD w3 w1.heap.size (.slice ag F.length capg) F := og.base (by simp)
  have hq1 : w.heap.size + 1 + 1 < w1.heap.size := hz1
  have hs3 : w1.heap.size ≤ w3.heap.size := by have := b3.size; simpa using this
  go_wp2_with fail
  have HN := Lib.hid (eight_same (B := w1.heap.size) (C := w3.heap.size) w3 (q := w.heap.size + 1 + 1) (p := w.heap.size + 1) (.slice ag F.length capg) (.int .i64 t) (.int .i64 c) (.slice au ll.length capu) (.int .i64 m) (.int .i64 at_) (.slice ag F.length capg) (.int .i64 t) hq1 (by omega))
  refine bodyPost_ret (v := srcV c (.slice au ll.length capu) m at_ (.slice ag F.length capg) t) (by simp [srcV, results, Tryz.results6, go_sem, e0, e1, e2, e3, e4, e5]) rfl ⟨_, _, w1.heap.size, rfl, ?_, ?_, ?_, ?_, ?_⟩
  · exact (HU3.out.same (eight_same w3 (q := w.heap.size + 1 + 1) (p := w.heap.size + 1) _ _ _ _ _ _ _ _ hB1 (by omega))).base (by simp; omega) (Nat.le_refl _)
  · exact (og1.range.same HN.out).1
  · omega
  · simp; omega
  · exact eight_below _ _ _ _ _ _ _ _ HB6.out (by omega) (by omega)
end
end Go.Proofs.YtigecfbmdbpbhaaGreat
namespace Go.Proofs.YtigecfbmdbpbhaaGreat
open Go.RowKit

def MarkSea (k : Int) (ll : List (List Int)) (F : List (Int × Int)) (B C D : Nat) (v f : Value) (w : World) (e : Ending) (w' : World) : Prop :=
  e = .returned (.int .i64 (k + (tot ll : Int) + 2 * (F.length : Int))) ∧ OwnSS w' B C v (upRows k ll) ∧ OwnDR w' C D f (upD (k + (tot ll : Int)) F.length) ∧ Mid B D w w'
section
set_option maxRecDepth 20000
set_option maxHeartbeats 800000
theorem markSearch_any (c m at_ t : Int) (v f : Value) (ll : List (List Int)) (F : List (Int × Int)) (k : Int) (B C D : Nat) (w : World) (ho : OwnSS w B C v ll) (hf : OwnDR w C D f F) (hBC : B ≤ C) (hCD : C ≤ D) (hD : D ≤ w.heap.size)
    (hl : ll.length ≤ 1048576) (ht : tot ll ≤ 1048576) (hF : F.length ≤ 1048576) (hk0 : 0 ≤ k) (hk1 : k ≤ 1048576) :
    Calls Tryz.prog 9 #[srcV c v m at_ f t, .int .i64 k] w (MarkSea k ll F B C D v f w) := by
  have HK := Lib.hid (fun (w' : World) (ho : OwnSS w' B C v ll) (hC : C ≤ w'.heap.size) => markTable_any c v ll k B C w' ho hC hl ht hk0 hk1)
  have HD := Lib.hid (fun (w' : World) (hf : OwnDR w' C D f F) => markDepR_any f F (k + (tot ll : Int)) C D w' hf hF (by omega) (by omega))
  obtain ⟨a, cap, rfl, -⟩ := ho.read
  obtain ⟨af, capf, rfl, -⟩ := hf.read
  have ho2 := ho.same (w' := w.alloc (.cells #[.int .i64 c, .slice a ll.length cap, .int .i64 m, .int .i64 at_, .slice af F.length capf, .int .i64 t] 32)) (fun q _ hq => Below.heap_alloc _ _ _ (by omega))
  have hf2 := hf.same (w' := w.alloc (.cells #[.int .i64 c, .slice a ll.length cap, .int .i64 m, .int .i64 at_, .slice af F.length capf, .int .i64 t] 32)) (fun q _ hq => Below.heap_alloc _ _ _ (by omega))
  have HF2 := Lib.hid hf2
  have HM := Lib.hid ((Mid.ofBelow ((Below.refl w.heap.size w).alloc (Nat.le_refl _) (.cells #[.int .i64 c, .slice a ll.length cap, .int .i64 m, .int .i64 at_, .slice af F.length capf, .int .i64 t] 32))) : Mid B D w _)
  have HS := Lib.hid (SBx.mk' w 32 c (.slice a ll.length cap) m at_ (.slice af F.length capf) t)
  obtain ⟨⟨c0, c1⟩, ⟨c2, c3⟩, c4, c5⟩ := HS.out
  unfold srcV
  clear ho hf hf2
  go_enter Tryz.func9, Tryz.ntmps9
  go_wp2_with fail
  refine (HK.out _ ho2 (by simp; omega)).mono ?_
  rintro e w1 ⟨rfl, ho3, hm⟩
  have hf3 := HF2.out.same (hm.same (B' := C) (C' := D) (by simp; omega) (.inr (Nat.le_refl _)))
  have c4' := cell_eqb c4 (hm.block w.heap.size (by simp) (.inr (by omega)))
  have HO3 := Lib.hid ho3
  have HM1 := Lib.hid hm
  clear c0 c1 c2 c3 c4 c5 ho3 hm
  go_wp2_with fail
  refine (HD.out _ hf3).mono ?_
  rintro e w2 ⟨rfl, hf4, hm2⟩
  have ho4 := HO3.out.same (hm2.same (B' := B) (C' := C) (by have := HM1.out.size; simp at this; omega) (.inl (Nat.le_refl _)))
  go_wp2_with fail
  go_ret
  exact ⟨rfl, ho4, hf4, HM.out.trans ((HM1.out.sub (Nat.le_refl _) hCD).trans (hm2.sub hBC (Nat.le_refl _)))⟩
theorem heldSearch_any (c m at_ t : Int) (v f : Value) (ll : List (List Int)) (n : Nat) (k : Int) (w : World) (hr : ReadSS w v (upRows k ll)) (hf : ReadD w f (upD (k + (tot ll : Int)) n))
    (hl : ll.length ≤ 1048576) (ht : tot ll ≤ 1048576) (hF : n ≤ 1048576) (hk0 : 0 ≤ k) (hk1 : k ≤ 1048576) :
    Calls Tryz.prog 10 #[srcV c v m at_ f t, .int .i64 k] w fun e w' => e = .returned (.int .i64 (k + (tot ll : Int) + 2 * (n : Int))) ∧ Below w.heap.size w w' := by
  have HK := Lib.hid (fun (w' : World) (hb : Below w.heap.size w w') => heldTable_any c v ll k w' (hr.kept hb) hl ht hk0 hk1)
  have HD := Lib.hid (fun (w' : World) (hb : Below w.heap.size w w') => heldDepR_any f n (k + (tot ll : Int)) w' (hf.kept hb) hF (by omega) (by omega))
  obtain ⟨a, cap, rfl, -⟩ := hr
  obtain ⟨af, capf, rfl, -⟩ := hf
  rw [upRows_len] at *
  rw [upD_length] at *
  have hb1 := (Below.refl w.heap.size w).alloc (Nat.le_refl _) (.cells #[.int .i64 c, .slice a ll.length cap, .int .i64 m, .int .i64 at_, .slice af n capf, .int .i64 t] 32)
  have HS := Lib.hid (SBx.mk' w 32 c (.slice a ll.length cap) m at_ (.slice af n capf) t)
  have HB := Lib.hid hb1
  obtain ⟨⟨c0, c1⟩, ⟨c2, c3⟩, c4, c5⟩ := HS.out
  have g0 : decide (k + (tot ll : Int) < 0) = false := decide_eq_false (by omega)
  have g1 : decide (k + (tot ll : Int) + 2 * (n : Int) < 0) = false := decide_eq_false (by omega)
  unfold srcV
  clear hb1
  go_enter Tryz.func10, Tryz.ntmps10
  go_wp2_with fail
  refine (HK.out _ HB.out).mono ?_
  rintro e w1 ⟨rfl, b1⟩
  have hb2 := HB.out.trans (b1.mono HB.out.size)
  have HS1 := Lib.hid (HS.out.kept b1)
  clear c0 c1 c2 c3 c4 c5 b1
  obtain ⟨⟨c0, c1⟩, ⟨c2, c3⟩, c4, c5⟩ := HS1.out
  go_wp2_with fail
  refine (HD.out _ hb2).mono ?_
  rintro e w2 ⟨rfl, hw2⟩
  go_wp2_with fail
  go_ret
  exact ⟨rfl, hb2.trans (hw2.mono hb2.size)⟩
end
end Go.Proofs.YtigecfbmdbpbhaaGreat
namespace Go.Proofs.YtigecfbmdbpbhaaGreat
open Go.RowKit

/-- A search and its box, to be read. -/
structure Fz (w : World) (b : Nat) (c m at_ t : Int) (u g : Value) (ll : List (List Int)) (F : List (Int × Int)) : Prop where
  rs : ReadSS w u ll
  rd : ReadD w g F
  bx : SBx w b c u m at_ g t
theorem Fz.kept {w w' : World} {b : Nat} {c m at_ t : Int} {u g : Value} {ll : List (List Int)} {F : List (Int × Int)} (h : Fz w b c m at_ t u g ll F) (hb : Below w.heap.size w w') : Fz w' b c m at_ t u g ll F := ⟨h.rs.kept hb, h.rd.kept hb, h.bx.kept hb⟩
/-- A search whose rows are blocks from B on and below C, what was found below D, and its box b. -/
structure Ms (w : World) (B C D b : Nat) (c m at_ t : Int) (u g : Value) (ll : List (List Int)) (F : List (Int × Int)) : Prop where
  ss : OwnSS w B C u ll
  dr : OwnDR w C D g F
  bx : SBx w b c u m at_ g t
  le : B ≤ C ∧ C ≤ D ∧ D ≤ b ∧ b < w.heap.size
theorem SBx.eqb {w w' : World} {b : Nat} {c m at_ t : Int} {v f : Value} (h : SBx w b c v m at_ f t) (e : w'.heap[b]? = w.heap[b]?) : SBx w' b c v m at_ f t :=
  ⟨⟨cell_eqb h.1.1 e, cell_eqb h.1.2 e⟩, ⟨cell_eqb h.2.1.1 e, cell_eqb h.2.1.2 e⟩, cell_eqb h.2.2.1 e, cell_eqb h.2.2.2 e⟩
section
variable {w w' : World} {B C D b : Nat} {c m at_ t : Int} {u g : Value} {ll : List (List Int)} {F : List (Int × Int)}
theorem Ms.kept (h : Ms w B C D b c m at_ t u g ll F) (hb : Below w.heap.size w w') : Ms w' B C D b c m at_ t u g ll F := by
  obtain ⟨h1, h2, h3, h4⟩ := h.le
  exact ⟨h.ss.same (Below.keeps hb (by omega)), h.dr.same (Below.keeps hb (by omega)), h.bx.kept hb, h1, h2, h3, Nat.lt_of_lt_of_le h4 hb.size⟩
theorem Ms.mid (h : Ms w B C D b c m at_ t u g ll F) {B' D' : Nat} (hm : Mid B' D' w w') (hd : D' ≤ B ∨ b < B') : Ms w' B C D b c m at_ t u g ll F := by
  obtain ⟨h1, h2, h3, h4⟩ := h.le
  have hs : ∀ k, B ≤ k → k ≤ b → w'.heap[k]? = w.heap[k]? := fun k hk1 hk2 => hm.block k (by omega) (by omega)
  exact ⟨h.ss.same (fun k hk1 hk2 => hs k hk1 (by omega)), h.dr.same (fun k hk1 hk2 => hs k (by omega) (by omega)), h.bx.eqb (hs b (by omega) (Nat.le_refl _)), h1, h2, h3, Nat.lt_of_lt_of_le h4 hm.size⟩
/-- What a call answered, laid into a box. -/
theorem Ms.laid (ho : OwnSS w B C u ll) (hd : OwnD w C g F) (hBC : B ≤ C) (hC : C ≤ w.heap.size) : Ms (w.alloc (.cells #[.int .i64 c, u, .int .i64 m, .int .i64 at_, g, .int .i64 t] 32)) B C w.heap.size w.heap.size c m at_ t u g ll F := by
  have hal := (Below.refl w.heap.size w).alloc (Nat.le_refl _) (.cells #[.int .i64 c, u, .int .i64 m, .int .i64 at_, g, .int .i64 t] 32)
  exact ⟨ho.same (Below.keeps hal hC), hd.range.same (Below.keeps hal (Nat.le_refl _)), SBx.mk' w 32 c u m at_ g t, hBC, hC, Nat.le_refl _, by simp⟩
theorem Fz.laid (hr : ReadSS w u ll) (hd : ReadD w g F) : Fz (w.alloc (.cells #[.int .i64 c, u, .int .i64 m, .int .i64 at_, g, .int .i64 t] 32)) w.heap.size c m at_ t u g ll F := by
  have hal := (Below.refl w.heap.size w).alloc (Nat.le_refl _) (.cells #[.int .i64 c, u, .int .i64 m, .int .i64 at_, g, .int .i64 t] 32)
  exact ⟨hr.kept hal, hd.kept hal, SBx.mk' w 32 c u m at_ g t⟩
/-- A search is marked. -/
theorem Ms.mark (h : Ms w B C D b c m at_ t u g ll F) (hl : ll.length ≤ 1048576) (ht : tot ll ≤ 1048576) (hF : F.length ≤ 1048576) :
    Calls Tryz.prog 9 #[srcV c u m at_ g t, .int .i64 1] w fun e w' => e = .returned (.int .i64 (1 + (tot ll : Int) + 2 * (F.length : Int))) ∧ Mid B D w w' ∧ Ms w' B C D b c m at_ t u g (upRows 1 ll) (upD (1 + (tot ll : Int)) F.length) := by
  obtain ⟨h1, h2, h3, h4⟩ := h.le
  refine (markSearch_any c m at_ t u g ll F 1 B C D w h.ss h.dr h1 h2 (by omega) hl ht hF (by omega) (by omega)).mono ?_
  rintro e w' ⟨rfl, a1, a2, a3⟩
  exact ⟨rfl, a3, a1, a2, h.bx.eqb (a3.block b h4 (.inr h3)), h1, h2, h3, Nat.lt_of_lt_of_le h4 a3.size⟩
/-- A marked search still holds its marks. -/
theorem Ms.held {n : Nat} (h : Ms w B C D b c m at_ t u g (upRows 1 ll) (upD (1 + (tot ll : Int)) n)) (hl : ll.length ≤ 1048576) (ht : tot ll ≤ 1048576) (hF : n ≤ 1048576) :
    Calls Tryz.prog 10 #[srcV c u m at_ g t, .int .i64 1] w fun e w' => e = .returned (.int .i64 (1 + (tot ll : Int) + 2 * (n : Int))) ∧ Below w.heap.size w w' :=
  heldSearch_any c m at_ t u g ll n 1 w h.ss.read h.dr.read hl ht hF (by omega) (by omega)
end
end Go.Proofs.YtigecfbmdbpbhaaGreat
namespace Go.Proofs.YtigecfbmdbpbhaaGreat
open Go.ChangeShapes Go.WideShapes Go.Joins Go.RowKit Go.Deep

theorem cellsDep : Tryz.prog.cellsOf 69 = 2 := by kernel_rfl
section
variable {H : Type} {enc : TypeId × Value → H} {w : World} {base : Nat} {held : Bool}
set_option maxRecDepth 20000 in
theorem open_dep {r : Reach} {b0 : Nat} {v : Value} {d : DataW H} {p : List MemPlace} (hv : Value.okWide Tryz.prog w r b0 69 v) (h : DataW.Trod enc Tryz.prog w base (fun _ => true) held 69 v d p) :
    ∃ x y : Int, v = .agg #[.int .i64 x, .int .i64 y] ∧ (Lit.int .i64 x).wf = true ∧ (Lit.int .i64 y).wf = true := by
  obtain ⟨c0, c1, y0, y1, m, rfl, -, -, hy0, hy1⟩ := open_agg2 Tryz.underlying69 (by kernel_rfl) cellsDep hv h
  obtain ⟨n, hn, -, hwf⟩ := DataW.trod_int Tryz.underlying3 hy0
  obtain ⟨n', hn', -, hwf'⟩ := DataW.trod_int Tryz.underlying3 hy1
  simp at hn hn'
  subst hn hn'
  exact ⟨n, n', rfl, hwf, hwf'⟩
set_option maxRecDepth 20000 in
theorem open_deps {fuel : Nat} {v : Value} {x : DataW H × List MemPlace} (h : DataW.trod enc Tryz.prog w base (fun _ => true) held fuel 25 [v] = some x) : ∃ ds, ReadD w v ds ∧ ds.length ≤ maxLen ∧ ∀ d ∈ ds, (Lit.int .i64 d.1).wf = true ∧ (Lit.int .i64 d.2).wf = true := by
  rcases open_slice_pairs Tryz.underlying25 Tryz.underlying69 cellsDep rfl rfl (by kernel_rfl) (by kernel_rfl) h with ⟨hcs, -⟩ | ⟨a, len, cap, m, n, V0, V1, D0, D1, P0, P1, hcs, -, hl, hm, hmm, -, hr⟩
  · simp at hcs
    subst hcs
    exact ⟨[], ⟨none, 0, rfl, fun i hi => absurd hi (Nat.not_lt_zero _)⟩, Nat.zero_le _, fun d hd => by cases hd⟩
  · simp at hcs
    subst hcs
    simp at hmm
    subst hmm
    have hx : ∀ i, i < m → ∃ p : Int × Int, V0 i = .int .i64 p.1 ∧ V1 i = .int .i64 p.2 ∧ (Lit.int .i64 p.1).wf = true ∧ (Lit.int .i64 p.2).wf = true := fun i hi => by
      obtain ⟨-, -, h0, h1⟩ := hr i hi
      obtain ⟨n0, e0, -, w0⟩ := DataW.trod_int Tryz.underlying3 h0
      obtain ⟨n1, e1, -, w1⟩ := DataW.trod_int Tryz.underlying3 h1
      simp at e0 e1
      exact ⟨(n0, n1), e0, e1, w0, w1⟩
    let f : Nat → Int × Int := fun i => if h : i < m then Classical.choose (hx i h) else (0, 0)
    have hf : ∀ i, i < m → V0 i = .int .i64 (f i).1 ∧ V1 i = .int .i64 (f i).2 ∧ (Lit.int .i64 (f i).1).wf = true ∧ (Lit.int .i64 (f i).2).wf = true := fun i hi => by
      have := Classical.choose_spec (hx i hi)
      simp only [f, dif_pos hi]
      exact this
    have hlen : ((List.range len).map f).length = len := by simp
    refine ⟨(List.range len).map f, ⟨some a, m, by rw [hlen], fun i hi => ?_⟩, by rw [hlen]; omega, fun d hd => ?_⟩
    · rw [hlen] at hi
      obtain ⟨c0, c1, -, -⟩ := hr i (by omega)
      obtain ⟨e0, e1, -, -⟩ := hf i (by omega)
      obtain ⟨b, o, s⟩ := a
      have hs : s = none := by
        obtain ⟨g0, -, -, -⟩ := hr 0 (by omega)
        rw [Nat.zero_mul, Addr.add_zero'] at g0
        unfold World.cell? at g0
        cases s with
        | none => rfl
        | some z =>
          simp only at g0
          split at g0 <;> simp at g0
      subst hs
      have hg : ((List.range len).map f).getD i (0, 0) = f i := by rw [List.getD_eq_getElem?_getD, List.getElem?_eq_getElem (by rw [hlen]; exact hi)]; simp
      rw [hg]
      refine ⟨b, o, rfl, ?_, ?_⟩
      · rw [← e0, ← c0]
        unfold Addr.add
        split
        · next h => rw [h, Nat.add_zero]
        · rfl
      · rw [← e1, ← c1]
        unfold Addr.add
        rw [if_neg (by omega)]
        rfl
    · obtain ⟨i, hi, rfl⟩ := List.mem_map.1 hd
      have := List.mem_range.1 hi
      exact (hf i (by omega)).2.2
end
end Go.Proofs.YtigecfbmdbpbhaaGreat
namespace Go.Proofs.YtigecfbmdbpbhaaGreat
open Go.ChangeShapes Go.WideShapes Go.Joins Go.RowKit Go.Deep

theorem cellsSea : Tryz.prog.cellsOf 27 = 6 := by kernel_rfl
theorem cellsInt : Tryz.prog.cellsOf 3 = 1 := by kernel_rfl
theorem cellsDS : Tryz.prog.cellsOf 25 = 1 := by kernel_rfl
theorem cellsSS : Tryz.prog.cellsOf 22 = 1 := by kernel_rfl
theorem array6 {α : Type} {cs : Array α} (h : cs.size = 6) : ∃ c0 c1 c2 c3 c4 c5, cs = #[c0, c1, c2, c3, c4, c5] := by
  obtain ⟨l⟩ := cs
  match l, h with
  | [c0, c1, c2, c3, c4, c5], _ => exact ⟨c0, c1, c2, c3, c4, c5, rfl⟩
section
variable {H : Type} {enc : TypeId × Value → H} {P : Program} {w : World} {base : Nat} {spare : Nat → Bool} {held : Bool}
theorem trod_struct5 {t : TypeId} {f0 f1 f2 f3 f4 : Field} {fuel : Nat} {cs : List Value} {x : DataW H × List MemPlace} (ht : P.underlying t = some (.struct #[f0, f1, f2, f3, f4])) (h : DataW.trod enc P w base spare held fuel t cs = some x) :
    ∃ y0 y1 y2 y3 y4 n, DataW.trod enc P w base spare held n f0.type ((cs.drop f0.offset).take (P.cellsOf f0.type)) = some y0 ∧
      DataW.trod enc P w base spare held n f1.type ((cs.drop f1.offset).take (P.cellsOf f1.type)) = some y1 ∧ DataW.trod enc P w base spare held n f2.type ((cs.drop f2.offset).take (P.cellsOf f2.type)) = some y2 ∧
      DataW.trod enc P w base spare held n f3.type ((cs.drop f3.offset).take (P.cellsOf f3.type)) = some y3 ∧ DataW.trod enc P w base spare held n f4.type ((cs.drop f4.offset).take (P.cellsOf f4.type)) = some y4 := by
  obtain ⟨xs, n, _, rfl, hl, hlen, hf⟩ := DataW.trod_struct ht h
  match xs, hlen with
  | [y0, y1, y2, y3, y4], _ => exact ⟨y0, y1, y2, y3, y4, n, by simpa using hf 0 f0 rfl, by simpa using hf 1 f1 rfl, by simpa using hf 2 f2 rfl, by simpa using hf 3 f3 rfl, by simpa using hf 4 f4 rfl⟩
end
section
variable {H : Type} {enc : TypeId × Value → H} {w : World} {base : Nat} {held : Bool}
set_option maxRecDepth 20000 in
theorem open_search {r : Reach} {b0 : Nat} {v : Value} {d : DataW H} {p : List MemPlace} (hv : Value.okWide Tryz.prog w r b0 27 v) (h : DataW.Trod enc Tryz.prog w base (fun _ => true) held 27 v d p) :
    ∃ (c : Int) (u : Value) (m at_ : Int) (f : Value) (t : Int) (ll : List (List Int)) (F : List (Int × Int)), v = srcV c u m at_ f t ∧ (Lit.int .i64 m).wf = true ∧ ReadSS w u ll ∧ Short ll ∧ ReadD w f F ∧ F.length ≤ maxLen := by
  obtain ⟨cs, rfl, hsz⟩ := okWide_struct Tryz.underlying27 hv
  obtain ⟨c0, c1, c2, c3, c4, c5, rfl⟩ := array6 (hsz.trans cellsSea)
  obtain ⟨fuel, hf⟩ := h
  obtain ⟨y0, y1, y2, y3, y4, n, h0, h1, h2, h3, h4⟩ := trod_struct5 Tryz.underlying27 hf
  simp only [cellsInt, cellsTab, cellsDS, Value.cells] at h0 h1 h2 h3 h4
  simp at h0 h1 h2 h3 h4
  obtain ⟨z0, z1, n2, -, -, k0, k1⟩ := trod_struct2 Tryz.underlying24 h0
  simp only [cellsInt, cellsSS] at k0 k1
  simp at k0 k1
  obtain ⟨c, e0, -, -⟩ := DataW.trod_int Tryz.underlying3 k0
  obtain ⟨m, e2, -, wm⟩ := DataW.trod_int Tryz.underlying3 h1
  obtain ⟨a, e3, -, -⟩ := DataW.trod_int Tryz.underlying3 h2
  obtain ⟨t, e5, -, -⟩ := DataW.trod_int Tryz.underlying3 h4
  simp at e0 e2 e3 e5
  subst e0 e2 e3 e5
  obtain ⟨ll, r1, r2⟩ := open_rows k1
  obtain ⟨F, r3, r4, -⟩ := open_deps h3
  exact ⟨c, c1, m, a, c4, t, ll, F, rfl, wm, r1, r2, r3, r4⟩
end
end Go.Proofs.YtigecfbmdbpbhaaGreat
