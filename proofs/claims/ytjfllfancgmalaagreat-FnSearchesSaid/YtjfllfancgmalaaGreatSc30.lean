/- Texts of this claim, merged: SmF, Draw, Draw2, Draw3, SetsDraw, TabDraw. Conditions: as stated. -/
import Derived.Test.YtjfllfancgmalaaGreatSmEm
import Derived.Test.YtjfllfancgmalaaGreatSc23
import Derived.Test.YtjfllfancgmalaaGreatSc1
import Derived.Test.YtjfllfancgmalaaGreatSc2
import Derived.Test.YtjfllfancgmalaaGreatRows
import Derived.Deep.QuietTactic
import Derived.BigQuiet
import Derived.Maps.AppendAt
import Derived.ChangeOld
import Derived.Below
namespace Go.Proofs.YtjfllfancgmalaaGreat
open Go.RowKit

/-- A search and whether there is one, in memory of the call's own. -/
def RetSWB (c m at_ t : Int) (ll : List (List Int)) (F : List (Int × Int)) (b : Bool) (w : World) (e : Ending) (w' : World) : Prop :=
  ∃ u g : Value, e = .returned (.tuple #[srcV c u m at_ g t, .bool b]) ∧ OwnSS w' w.heap.size w'.heap.size u ll ∧ OwnD w' w.heap.size g F ∧ Below w.heap.size w w'
section
set_option maxRecDepth 20000
set_option maxHeartbeats 3200000
theorem stepSearch8_any (c m at_ t : Int) (v f : Value) (ll : List (List Int)) (F : List (Int × Int)) (w : World) (hr : ReadSS w v ll) (hl : ll.length ≤ 1048576) (ht : ∀ i, i < ll.length → (ll.getD i []).length ≤ 1048576) (hf : ReadD w f F) (hF : F.length ≤ 1048576) :
    Calls Tryz.prog 12 #[srcV c v m at_ f t] w (RetSWB c m (ssA c ll m at_ F t) (ssT c ll m at_ F t) ll (ssF c ll m at_ F t) (nxB c ll m at_ F t) w) := by
  have HF := Lib.hid (fun w' (hb : Below w.heap.size w w') => isSearch8_any c m at_ t v f ll F w' (hr.kept hb) hl ht (hf.kept hb) hF)
  have HD := Lib.hid (fun w' (hb : Below w.heap.size w w') => isSearched8_any c m at_ t v f ll F w' (hr.kept hb) hl ht (hf.kept hb) hF)
  have HCP := Lib.hid (fun w' (hb : Below w.heap.size w w') => l8Copy_any c m at_ t v f ll F w' (hr.kept hb) hl ht (hf.kept hb) hF)
  obtain ⟨a, cap, rfl, -⟩ := hr
  obtain ⟨af, capf, rfl, -⟩ := hf
  obtain ⟨hx, hy, hb⟩ := SBI.pair w (.int .i64 c) (.slice a ll.length cap) (.int .i64 m) (.int .i64 at_) (.slice af F.length capf) (.int .i64 t) (.int .i64 0) (.slice none 0 0) (.int .i64 0) (.int .i64 0) (.slice none 0 0) (.int .i64 0)
  have HX := Lib.hid hx
  have HY := Lib.hid hy
  have HB := Lib.hid hb
  obtain ⟨⟨c0, c1, c2, c3, c4, c5⟩, -⟩ := HX.out.cells
  have HZ : Hid (((w.alloc (.cells #[.int .i64 c, .slice a ll.length cap, .int .i64 m, .int .i64 at_, .slice af F.length capf, .int .i64 t] 29)).alloc (.cells #[.int .i64 0, .slice none 0 0, .int .i64 0, .int .i64 0, .slice none 0 0, .int .i64 0] 29)).heap.size = w.heap.size + 2) := Lib.hid (by simp)
  unfold srcV at HF HCP HD ⊢
  clear hx hy hb ht
  go_enter Tryz.func12, Tryz.ntmps12
  go_wp2_with fail
  refine (HCP.out _ HB.out).mono ?_
  rintro e w1 ⟨u, g, rfl, ou, og, b1⟩
  have HB1 := Lib.hid (HB.out.trans (b1.mono HB.out.size))
  have hX1 := HX.out.kept b1
  have hY1 := HY.out.kept b1
  obtain ⟨au, capu, rfl, -⟩ := ou.read
  obtain ⟨ag, capg, rfl⟩ := og.shape
  rw [HZ.out] at ou og
  have hp := (Below.refl w1.heap.size w1).alloc (Nat.le_refl _) (.cells #[.int .i64 c, .slice au ll.length capu, .int .i64 m, .int .i64 at_, .slice ag F.length capg, .int .i64 t] 29)
  have HNX := Lib.hid (SBI.new w1 (.int .i64 c) (.slice au ll.length capu) (.int .i64 m) (.int .i64 at_) (.slice ag F.length capg) (.int .i64 t))
  have HX2 := Lib.hid (hX1.kept hp)
  have HY2 := Lib.hid (hY1.kept hp)
  have HB2 := Lib.hid (HB1.out.trans (hp.mono HB1.out.size))
  have HOU := Lib.hid (ou.same (w' := w1.alloc (.cells #[.int .i64 c, .slice au ll.length capu, .int .i64 m, .int .i64 at_, .slice ag F.length capg, .int .i64 t] 29)) (Below.keeps hp (Nat.le_refl _)))
  have HOG := Lib.hid (og.below hp (fun q hq => (og.lt q hq).2))
  have HS1 : Hid (w.heap.size + 2 ≤ w1.heap.size) := Lib.hid (by have := b1.size; rw [HZ.out] at this; exact this)
  unfold srcV
  clear c0 c1 c2 c3 c4 c5 b1 hX1 hY1 ou og hp HX HY HB HB1 HCP HZ
  obtain ⟨⟨c0, c1, c2, c3, c4, c5⟩, -⟩ := HX2.out.cells
  go_wp2_with fail
  refine (HF.out _ HB2.out).mono ?_
  rintro e w2 ⟨rfl, b2⟩
  have HNX2 := Lib.hid (HNX.out.kept b2)
  have HX3 := Lib.hid (HX2.out.kept b2)
  have HY3 := Lib.hid (HY2.out.kept b2)
  have HB3 := Lib.hid (HB2.out.trans (b2.mono HB2.out.size))
  have HOU2 := Lib.hid (HOU.out.same (Below.keeps b2 (by simp)))
  have HOG2 := Lib.hid (HOG.out.below b2 (fun q hq => (HOG.out.lt q hq).2))
  have HS2 : Hid (w1.heap.size < w2.heap.size) := Lib.hid (by have := b2.size; rw [World.size_alloc] at this; exact this)
  clear c0 c1 c2 c3 c4 c5 b2 HNX HX2 HY2 HB2 HOU HOG
  obtain ⟨p, hp⟩ : ∃ p, p = w1.heap.size := ⟨_, rfl⟩
  rw [← hp] at HNX2 HOU2 HS1 HS2 ⊢
  clear hp
  cases hs : isSB c ll m at_ F t with
  | false =>
    have e0 : nxB c ll m at_ F t = false := by unfold nxB; rw [hs]; simp
    have HE := Lib.hid (And.intro (show ssA c ll m at_ F t = at_ by unfold ssA; rw [e0]; rfl) (And.intro (show ssT c ll m at_ F t = t by unfold ssT; rw [e0]; rfl) (And.intro (show ssF c ll m at_ F t = F by unfold ssF; rw [e0]; rfl) e0)))
    clear e0
    clear hs HD
    have HFN := Lib.hid (sea_fin2 HOU2.out HOG2.out HB3.out (Nat.le_of_lt HS2.out) (.int .i64 c) (.slice au ll.length capu) (.int .i64 m) (.int .i64 at_) (.slice ag F.length capg) (.int .i64 t))
    obtain ⟨⟨d0, d1, d2, d3, d4, d5⟩, -⟩ := HNX2.out.cells
    obtain ⟨⟨r0, r1, r2, r3, r4, r5⟩, s0, s1, s2, s3, s4, s5⟩ := HY3.out.cells
    go_wp2_with fail
    exact bodyPost_ret (v := .tuple #[srcV c (.slice au ll.length capu) m at_ (.slice ag F.length capg) t, .bool false]) (by simp [srcV, results, Tryz.results12, go_sem, r0, r1, r2, r3, r4, r5]) rfl ⟨.slice au ll.length capu, .slice ag F.length capg, by rw [HE.out.1, HE.out.2.1, HE.out.2.2.2], by rw [HE.out.2.2.1]; exact HFN.out⟩
  | true =>
    obtain ⟨⟨c0, c1, c2, c3, c4, c5⟩, -⟩ := HX3.out.cells
    go_wp2_with fail
    refine (HD.out _ HB3.out).mono ?_
    rintro e w4 ⟨rfl, b4⟩
    replace HNX2 := Lib.hid (HNX2.out.kept b4)
    replace HX3 := Lib.hid (HX3.out.kept b4)
    replace HY3 := Lib.hid (HY3.out.kept b4)
    replace HB3 := Lib.hid (HB3.out.trans (b4.mono HB3.out.size))
    replace HOU2 := Lib.hid (HOU2.out.same (Below.keeps b4 (Nat.le_of_lt HS2.out)))
    replace HOG2 := Lib.hid (HOG2.out.below b4 (fun q hq => (HOG2.out.lt q hq).2))
    replace HS2 := Lib.hid (Nat.lt_of_lt_of_le HS2.out b4.size)
    clear c0 c1 c2 c3 c4 c5 b4
    cases hed : edB c ll m at_ F t with
    | true =>
      have e0 : nxB c ll m at_ F t = false := by unfold nxB; rw [hed]; simp
      have HE := Lib.hid (And.intro (show ssA c ll m at_ F t = at_ by unfold ssA; rw [e0]; rfl) (And.intro (show ssT c ll m at_ F t = t by unfold ssT; rw [e0]; rfl) (And.intro (show ssF c ll m at_ F t = F by unfold ssF; rw [e0]; rfl) e0)))
      clear e0
      clear hs hed
      have HFN := Lib.hid (sea_fin2 HOU2.out HOG2.out HB3.out (Nat.le_of_lt HS2.out) (.int .i64 c) (.slice au ll.length capu) (.int .i64 m) (.int .i64 at_) (.slice ag F.length capg) (.int .i64 t))
      obtain ⟨⟨d0, d1, d2, d3, d4, d5⟩, -⟩ := HNX2.out.cells
      obtain ⟨⟨r0, r1, r2, r3, r4, r5⟩, s0, s1, s2, s3, s4, s5⟩ := HY3.out.cells
      go_wp2_with fail
      exact bodyPost_ret (v := .tuple #[srcV c (.slice au ll.length capu) m at_ (.slice ag F.length capg) t, .bool false]) (by simp [srcV, results, Tryz.results12, go_sem, r0, r1, r2, r3, r4, r5]) rfl ⟨.slice au ll.length capu, .slice ag F.length capg, by rw [HE.out.1, HE.out.2.1, HE.out.2.2.2], by rw [HE.out.2.2.1]; exact HFN.out⟩
    | false =>
      have hnx : nxB c ll m at_ F t = true := by unfold nxB; rw [hs, hed]; rfl
      obtain ⟨C, K, n, rfl, rfl, rfl, hC1, hC5, hK, hN160, hfi, hrep⟩ := nxB_all hnx
      obtain ⟨⟨F9, n9⟩, h9⟩ : ∃ z, repN C ll m (K + 1) = z := ⟨_, rfl⟩
      have HE := Lib.hid (And.intro (show ssA (C : Int) ll m (K : Int) F (n : Int) = ((K + 1 : Nat) : Int) by unfold ssA; rw [hnx]; simp) (And.intro (show ssT (C : Int) ll m (K : Int) F (n : Int) = (n9 : Int) by unfold ssT; rw [hnx, show ((C : Int)).toNat = C from rfl, show ((K : Int)).toNat = K from rfl, h9]; rfl) (And.intro (show ssF (C : Int) ll m (K : Int) F (n : Int) = F9 by unfold ssF; rw [hnx, show ((C : Int)).toNat = C from rfl, show ((K : Int)).toNat = K from rfl, h9]; rfl) hnx)))
      have hcm := Cm.mk (w0 := w) (C := C) (m := m) (K := (K : Int)) (n0 := (n : Int)) (k := K) (p := p) HNX2.out HX3.out HY3.out HOU2.out HOG2.out HB3.out ⟨HS1.out, HS2.out⟩
      have HST := Lib.hid (l8Step_any C K n m F w _ _ (K : Int) (n : Int) _ _ ll p w4 (fineT_isT hfi) hK hrep hcm F9 n9 h9)
      clear hs hed hnx h9 hrep hfi hcm HNX2 HX3 HY3 HB3 HOU2 HOG2 HF HD
      go_wp2_with fail
      refine HST.out.mono ?_
      rintro e w5 ⟨rfl, g', hc5⟩
      obtain ⟨ag', capg', rfl⟩ := hc5.fnd.shape
      have HFN := Lib.hid (hc5.fin (.int .i64 (C : Int)) (.slice au ll.length capu) (.int .i64 m) (.int .i64 ((K + 1 : Nat) : Int)) (.slice ag' F9.length capg') (.int .i64 (n9 : Int)))
      obtain ⟨⟨d0, d1, d2, d3, d4, d5⟩, -⟩ := hc5.nx.cells
      obtain ⟨⟨r0, r1, r2, r3, r4, r5⟩, s0, s1, s2, s3, s4, s5⟩ := hc5.rb.cells
      obtain ⟨k9, hk9⟩ : ∃ k9, k9 = ((K + 1 : Nat) : Int) := ⟨_, rfl⟩
      rw [← hk9] at HFN HE d3
      clear hc5 HST hk9
      go_wp2_with fail
      exact bodyPost_ret (v := .tuple #[srcV (C : Int) (.slice au ll.length capu) m k9 (.slice ag' F9.length capg') (n9 : Int), .bool true]) (by simp [srcV, results, Tryz.results12, go_sem, r0, r1, r2, r3, r4, r5]) rfl ⟨.slice au ll.length capu, .slice ag' F9.length capg', by rw [HE.out.1, HE.out.2.1, HE.out.2.2.2], by rw [HE.out.2.2.1]; exact HFN.out⟩
end
end Go.Proofs.YtjfllfancgmalaaGreat
namespace Go.Proofs.YtjfllfancgmalaaGreat
open Go.RowKit

theorem i64_and_255 (n : Int) : bits .and .i64 n 255 = n % 256 := by
  have h : (BitVec.ofInt 64 255).toNat = 2 ^ 8 - 1 := by decide
  have key : (BitVec.ofInt 64 n &&& BitVec.ofInt 64 255).toNat = (n % ((2 ^ 64 : Nat) : Int)).toNat % 2 ^ 8 := by
    rw [BitVec.toNat_and, BitVec.toNat_ofInt, h, Nat.and_two_pow_sub_one_eq_mod]
  show IntKind.i64.wrap ((BitVec.ofInt 64 n &&& BitVec.ofInt 64 255).toNat : Nat) = n % 256
  rw [key, IntKind.wrap_i64]
  omega
theorem i64_and_255_bd (n : Int) : 0 ≤ bits .and .i64 n 255 ∧ bits .and .i64 n 255 ≤ 255 := by rw [i64_and_255]; omega

theorem grown_trans {a b c : World} {row : Option Nat} (h : a.grownBy b row) (k : b.grownBy c row) : a.grownBy c row :=
  ⟨k.os.trans h.os, k.tape.trans h.tape, k.output.trans h.output, Nat.le_trans h.size k.size, fun j hj hne => (k.block j (Nat.lt_of_lt_of_le hj h.size) hne).trans (h.block j hj hne)⟩
/-- The bytes that came in: nil, or n readable cells. -/
def CodeAt (W : World) (v : Value) (n : Nat) : Prop :=
  (v = .slice none 0 0 ∧ n = 0) ∨ ∃ x cap, v = .slice (some x) n cap ∧ n ≤ cap ∧ ∀ i, i < n → ∃ y : Int, 0 ≤ y ∧ y ≤ 255 ∧ W.cell? (x.add i) = some (.int .u8 y)
/-- A cursor over them, in block c, in the world w; W is the world in which they came in. -/
def Cur (W : World) (v : Value) (n c : Nat) (w : World) : Prop :=
  ∃ i h : Int, W.heap.size ≤ c ∧ w.heap[c]? = some (.cells #[v, .int .i64 i, .int .i64 h] 74 (0, 0)) ∧ 0 ≤ i ∧ i ≤ n ∧ Below W.heap.size W w
theorem Cur.lt {W w : World} {v : Value} {n c : Nat} (h : Cur W v n c w) : c < w.heap.size := by
  obtain ⟨i, h, _, hc, _⟩ := h; exact (Array.getElem?_eq_some_iff.1 hc).1
theorem Cur.kept {W w w' : World} {v : Value} {n c : Nat} {row : Option Nat} (h : Cur W v n c w) (hg : w.grownBy w' row) (hr : ∀ k, row = some k → W.heap.size ≤ k) (hne : row ≠ some c) : Cur W v n c w' := by
  have hlt := h.lt
  obtain ⟨i, j, a, b, d, e, f⟩ := h
  refine ⟨i, j, a, (hg.block c hlt (Ne.symm hne)).trans b, d, e, f.grown hg ?_ hr⟩
  have := f.size; exact this
def CurInt (W : World) (v : Value) (n c : Nat) (lo hi : Int) (w : World) (e : Ending) (w' : World) : Prop :=
  ∃ x : Int, lo ≤ x ∧ x ≤ hi ∧ e = .returned (.int .i64 x) ∧ w.grownBy w' (some c) ∧ Cur W v n c w'

theorem add_block' (x : Addr) (i : Nat) : (x.add i).block = x.block := by unfold Addr.add; split <;> rfl
theorem Code_cell {W w : World} {x : Addr} {i : Nat} {u : Value} (h : W.cell? (x.add i) = some u) (hb : Below W.heap.size W w) : w.cell? (x.add i) = some u := by
  have := World.block_lt_of_cell? W _ h
  rw [hb.cell this]; exact h

theorem store_h {w : World} {c : Nat} {v : Value} {i h : Int} (hb : w.heap[c]? = some (.cells #[v, .int .i64 i, .int .i64 h] 74 (0, 0))) (H : Int) (k : Nat) :
    w.grownBy ((w.setCell ⟨c, 2, none⟩ (.int .i64 H)).drewN k) (some c) ∧ ((w.setCell ⟨c, 2, none⟩ (.int .i64 H)).drewN k).heap[c]? = some (.cells #[v, .int .i64 i, .int .i64 H] 74 (0, 0)) := by
  refine ⟨⟨rfl, rfl, rfl, ?_, fun j _ hj => ?_⟩, ?_⟩
  · show w.heap.size ≤ (w.setCell ⟨c, 2, none⟩ (.int .i64 H)).heap.size
    simp
  · exact heap_setCell_other w ⟨c, 2, none⟩ j _ (fun e => hj (by rw [e]))
  · exact heap_setCell_same w c 2 _ _ _ hb
theorem store_hi {w : World} {c : Nat} {v : Value} {i h : Int} (hb : w.heap[c]? = some (.cells #[v, .int .i64 i, .int .i64 h] 74 (0, 0))) (H I : Int) (k : Nat) :
    w.grownBy (((w.setCell ⟨c, 2, none⟩ (.int .i64 H)).drewN k).setCell ⟨c, 1, none⟩ (.int .i64 I)) (some c) ∧ (((w.setCell ⟨c, 2, none⟩ (.int .i64 H)).drewN k).setCell ⟨c, 1, none⟩ (.int .i64 I)).heap[c]? = some (.cells #[v, .int .i64 I, .int .i64 H] 74 (0, 0)) := by
  obtain ⟨g1, h1⟩ := store_h hb H k
  refine ⟨⟨rfl, rfl, rfl, ?_, fun j hj hjc => ?_⟩, ?_⟩
  · have := g1.size; simp
  · exact (heap_setCell_other _ ⟨c, 1, none⟩ j _ (fun e => hjc (by rw [e]))).trans (g1.block j hj hjc)
  · exact heap_setCell_same _ c 1 _ _ _ h1
set_option maxHeartbeats 800000 in
theorem byte_any (W : World) (v : Value) (n : Nat) (hn : n ≤ 1048576) (hcode : CodeAt W v n) (c : Nat) (w : World) (hcur : Cur W v n c w) :
    Calls Tryz.prog 71 #[.pointer (some ⟨c, 0, none⟩)] w (CurInt W v n c 0 255 w) := by
  obtain ⟨i, h, hWc, hblk, hi0, hin, hb⟩ := hcur
  have c0 := cell_of_row w c 0 _ _ _ hblk
  have c1 := cell_of_row w c 1 _ _ _ hblk
  have c2 := cell_of_row w c 2 _ _ _ hblk
  have f1 := frozen_of_row w c 1 _ _ hblk
  have f2 := frozen_of_row w c 2 _ _ hblk
  by_cases hlt : i < n
  · rcases hcode with ⟨_, h0⟩ | ⟨x, cap, rfl, hcap, hcells⟩
    · omega
    · obtain ⟨y, y0, y1, hy⟩ := hcells i.toNat (by omega)
      have hy2 := Code_cell hy hb
      have hxc : x.block < W.heap.size := by have := World.block_lt_of_cell? W _ hy; rwa [add_block'] at this
      have hy3 : ∀ H : Int, (w.setCell ⟨c, 2, none⟩ (.int .i64 H)).cell? (x.add i.toNat) = some (.int .u8 y) := fun H =>
        (World.cell?_of_block (heap_setCell_other w ⟨c, 2, none⟩ _ _ (by rw [add_block']; simp; omega))).trans hy2
      have z1 : i < (n : Int) := by omega
      go_enter Tryz.func71, Tryz.ntmps71
      go_wp2_with fail
      go_quiet (fail)
      go_wp2_with fail
      have hX := i64_and_255_bd (bits BinOp.xor IntKind.i64 (wrap64 (wrap64 (h * 6364136223846793005) + 1442695040888963407) / 8589934592) (wrap64 (wrap64 (h * 6364136223846793005) + 1442695040888963407) / 35184372088832))
      generalize bits BinOp.and IntKind.i64 (bits BinOp.xor IntKind.i64 (wrap64 (wrap64 (h * 6364136223846793005) + 1442695040888963407) / 8589934592) (wrap64 (wrap64 (h * 6364136223846793005) + 1442695040888963407) / 35184372088832)) 255 = X at hX
      generalize bits BinOp.xor IntKind.i64 (wrap64 (wrap64 (h * 6364136223846793005) + 1442695040888963407) / 8589934592) (wrap64 (wrap64 (h * 6364136223846793005) + 1442695040888963407) / 35184372088832) = Y
      generalize wrap64 (wrap64 (h * 6364136223846793005) + 1442695040888963407) = H
      obtain ⟨x0, x1⟩ := hX
      go_quiet (fail)
      go_wp2_with fail
      go_quiet (fail)
      go_wp2_with fail
      go_ret
      obtain ⟨g1, g2⟩ := store_hi hblk H (i + 1) _
      exact ⟨_, (i64_and_255_bd _).1, (i64_and_255_bd _).2, rfl, g1, i + 1, H, hWc, g2, by omega, by omega, hb.grown g1 hb.size (fun k hk => by simp at hk; omega)⟩
  · go_enter Tryz.func71, Tryz.ntmps71
    have hlen : ∃ a cap, v = .slice a n cap := by
      rcases hcode with ⟨rfl, rfl⟩ | ⟨x, cap, rfl, _, _⟩
      · exact ⟨_, _, rfl⟩
      · exact ⟨_, _, rfl⟩
    obtain ⟨a, cap, rfl⟩ := hlen
    have z1 : ¬ i < (n : Int) := by omega
    go_wp2_with fail
    go_quiet (fail)
    go_wp2_with fail
    have hX := i64_and_255_bd (bits BinOp.xor IntKind.i64 (wrap64 (wrap64 (h * 6364136223846793005) + 1442695040888963407) / 8589934592) (wrap64 (wrap64 (h * 6364136223846793005) + 1442695040888963407) / 35184372088832))
    generalize bits BinOp.and IntKind.i64 (bits BinOp.xor IntKind.i64 (wrap64 (wrap64 (h * 6364136223846793005) + 1442695040888963407) / 8589934592) (wrap64 (wrap64 (h * 6364136223846793005) + 1442695040888963407) / 35184372088832)) 255 = X at hX
    generalize bits BinOp.xor IntKind.i64 (wrap64 (wrap64 (h * 6364136223846793005) + 1442695040888963407) / 8589934592) (wrap64 (wrap64 (h * 6364136223846793005) + 1442695040888963407) / 35184372088832) = Y
    generalize wrap64 (wrap64 (h * 6364136223846793005) + 1442695040888963407) = H
    obtain ⟨x0, x1⟩ := hX
    go_quiet (fail)
    go_wp2_with fail
    go_ret
    obtain ⟨g1, g2⟩ := store_h hblk H 0
    exact ⟨_, x0, x1, rfl, ⟨g1.os, g1.tape, g1.output, g1.size, g1.block⟩, i, H, hWc, g2, by omega, by omega, hb.grown (w' := ((w.setCell ⟨c, 2, none⟩ (.int .i64 H)).drewN _).drewN _) (row := some c) ⟨g1.os, g1.tape, g1.output, g1.size, g1.block⟩ hb.size (fun k hk => by simp at hk; omega)⟩

set_option maxHeartbeats 800000 in
theorem below_any (W : World) (v : Value) (n : Nat) (hn : n ≤ 1048576) (hcode : CodeAt W v n) (c : Nat) (w : World) (hcur : Cur W v n c w) (m : Int) (h1 : 1 ≤ m) (h2 : m ≤ 4294967296) :
    Calls Tryz.prog 49 #[.pointer (some ⟨c, 0, none⟩), .int .i64 m] w (CurInt W v n c 0 (m - 1) w) := by
  have HB := Lib.hid (byte_any W v n hn hcode c)
  by_cases hs : m ≤ 256
  · go_enter Tryz.func49, Tryz.ntmps49
    go_wp2_with fail
    refine (HB.out _ hcur).mono ?_
    rintro e w1 ⟨x, x0, x1, rfl, g1, hc1⟩
    go_wp2_with fail
    go_ret
    exact ⟨_, Int.emod_nonneg _ (by omega), by have := Int.emod_lt_of_pos x (show 0 < m by omega); omega, rfl, g1, hc1⟩
  · go_enter Tryz.func49, Tryz.ntmps49
    go_wp2_with fail
    refine (HB.out _ hcur).mono ?_
    rintro e w1 ⟨x, x0, x1, rfl, g1, hc1⟩
    go_wp2_with fail
    refine (HB.out _ hc1).mono ?_
    rintro e w2 ⟨y, y0, y1, rfl, g2, hc2⟩
    go_wp2_with fail
    refine (HB.out _ hc2).mono ?_
    rintro e w3 ⟨z, z0, z1, rfl, g3, hc3⟩
    go_wp2_with fail
    refine (HB.out _ hc3).mono ?_
    rintro e w4 ⟨u, u0, u1, rfl, g4, hc4⟩
    go_wp2_with fail
    go_ret
    exact ⟨_, Int.emod_nonneg _ (by omega), by have := Int.emod_lt_of_pos (x * 16777216 + y * 65536 + z * 256 + u) (show 0 < m by omega); omega, rfl, grown_trans (grown_trans (grown_trans g1 g2) g3) g4, hc4⟩

def NewCur (W : World) (v : Value) (n : Nat) (w : World) (e : Ending) (w' : World) : Prop :=
  ∃ c : Nat, w.heap.size ≤ c ∧ e = .returned (.pointer (some ⟨c, 0, none⟩)) ∧ w.grownBy w' none ∧ Cur W v n c w'
set_option maxHeartbeats 800000 in
theorem new_any (W : World) (v : Value) (n : Nat) (hn : n ≤ 1048576) (hcode : CodeAt W v n) (w : World) (hb : Below W.heap.size W w) :
    Calls Tryz.prog 24 #[v] w (NewCur W v n w) := by
  have hlen : ∃ a cap, v = .slice a n cap := by
    rcases hcode with ⟨rfl, rfl⟩ | ⟨x, cap, rfl, _, _⟩
    · exact ⟨_, _, rfl⟩
    · exact ⟨_, _, rfl⟩
  obtain ⟨a, cap, rfl⟩ := hlen
  have hcells : ∀ i, i < n → ∃ (x : Addr) (y : Int), a = some x ∧ 0 ≤ y ∧ y ≤ 255 ∧ w.cell? (x.add i) = some (.int .u8 y) := by
    intro i hi
    rcases hcode with ⟨h1, rfl⟩ | ⟨x, cap', h1, _, hc⟩
    · omega
    · obtain ⟨y, y0, y1, hy⟩ := hc i hi
      simp at h1
      exact ⟨x, y, h1.1, y0, y1, Code_cell hy hb⟩
  have HC := Lib.hid hcells
  have HCODE := Lib.hid hcode
  clear hcells hcode
  go_enter Tryz.func24, Tryz.ntmps24
  go_wp2_with fail
  go_loop [3, 4] (fun hv iv => ∃ (h : Int) (i : Nat), i ≤ n ∧ hv = .int .i64 h ∧ iv = .int .i64 (i : Int)) (fun _ iv => n - (intOf iv).toNat)
  case atStart => exact ⟨_, 0, by omega, rfl, rfl⟩
  case round =>
    obtain ⟨h, i, hi, rfl, rfl⟩ := hrel
    by_cases hlt : i < n
    · by_cases h4 : (i : Int) < 4000
      · obtain ⟨x, y, rfl, y0, y1, hy⟩ := HC.out i hlt
        have z0 : (0 : Int) ≤ (i : Int) := by omega
        have z1 : (i : Int) < (n : Int) := by omega
        go_wp2_with fail
        go_round
        case rel => exact ⟨_, i + 1, by omega, rfl, by go_num⟩
        case measure => simp [intOf]; omega
      · go_wp2_with fail
        go_ret
        exact ⟨_, Nat.le_refl _, rfl, World.grownBy_alloc w _ none, 0, _, hb.size, heap_alloc_new w _, by omega, by omega, hb.alloc hb.size _⟩
    · go_wp2_with fail
      go_ret
      exact ⟨_, Nat.le_refl _, rfl, World.grownBy_alloc w _ none, 0, _, hb.size, heap_alloc_new w _, by omega, by omega, hb.alloc hb.size _⟩

set_option maxHeartbeats 800000 in
theorem pick_any (W : World) (v : Value) (n : Nat) (hn : n ≤ 1048576) (hcode : CodeAt W v n) (c : Nat) (w : World) (hcur : Cur W v n c w) (L m : Nat) (lo hi : Int) (hm : 1 ≤ m) (hm2 : m ≤ 1000) (hLc : L ≠ c) (hL : L < w.heap.size)
    (hcells : ∀ i, i < m → ∃ y : Int, lo ≤ y ∧ y ≤ hi ∧ w.cell? ⟨L, i, none⟩ = some (.int .i64 y)) :
    Calls Tryz.prog 26 #[.pointer (some ⟨c, 0, none⟩), .slice (some ⟨L, 0, none⟩) m m] w (CurInt W v n c lo hi w) := by
  have HC := Lib.hid hcells
  have HB := Lib.hid (below_any W v n hn hcode c w hcur (m : Int) (by omega) (by omega))
  clear hcells
  go_enter Tryz.func26, Tryz.ntmps26
  go_wp2_with fail
  refine HB.out.mono ?_
  rintro e w1 ⟨x, x0, x1, rfl, g1, hc1⟩
  obtain ⟨j, rfl⟩ : ∃ j : Nat, x = (j : Int) := ⟨x.toNat, by omega⟩
  obtain ⟨y, y0, y1, hy⟩ := HC.out j (by omega)
  have hy1 : w1.cell? ⟨L, j, none⟩ = some (.int .i64 y) := (World.cell?_of_block (g1.block L hL (by simp [hLc]))).trans hy
  have z1 : (j : Int) < (m : Int) := by omega
  go_wp2_with fail
  go_ret
  exact ⟨y, y0, y1, rfl, g1, hc1⟩
end Go.Proofs.YtjfllfancgmalaaGreat
namespace Go.Proofs.YtjfllfancgmalaaGreat
open Go.RowKit

theorem pick17 (w : World) (C : Array Value) (hC : C = #[.int .i64 (-1), .int .i64 0, .int .i64 127, .int .i64 128, .int .i64 255, .int .i64 256, .int .i64 16383, .int .i64 16384, .int .i64 65535, .int .i64 65536, .int .i64 562949953421311, .int .i64 562949953421312, .int .i64 999999999, .int .i64 1000000000, .int .i64 (-999999999), .int .i64 9223372036854775807, .int .i64 (-9223372036854775808)]) (t : TypeId) :
    ∀ i, i < 17 → ∃ y : Int, -9223372036854775808 ≤ y ∧ y ≤ 9223372036854775807 ∧ (w.alloc (.cells C t)).cell? ⟨w.heap.size, i, none⟩ = some (.int .i64 y) := by
  intro i hi
  have e : (w.alloc (.cells C t)).cell? ⟨w.heap.size, i, none⟩ = C[i]? := World.cell?_alloc_mark w C t (0, 0) i
  rw [e, hC]
  rcases (show i = 0 ∨ i = 1 ∨ i = 2 ∨ i = 3 ∨ i = 4 ∨ i = 5 ∨ i = 6 ∨ i = 7 ∨ i = 8 ∨ i = 9 ∨ i = 10 ∨ i = 11 ∨ i = 12 ∨ i = 13 ∨ i = 14 ∨ i = 15 ∨ i = 16 by omega) with rfl | rfl | rfl | rfl | rfl | rfl | rfl | rfl | rfl | rfl | rfl | rfl | rfl | rfl | rfl | rfl | rfl
  all_goals (refine ⟨_, ?_, ?_, rfl⟩ <;> decide)

def CurStr (W : World) (v : Value) (n c : Nat) (most : Int) (w : World) (e : Ending) (w' : World) : Prop :=
  ∃ s : ByteArray, (s.size : Int) ≤ most ∧ e = .returned (.string s) ∧ w.grownBy w' (some c) ∧ Cur W v n c w'
theorem grown_above {a b d : World} {row row' : Option Nat} (h : a.grownBy b row) (k : b.grownBy d row') (hr : ∀ g, row' = some g → a.heap.size ≤ g) : a.grownBy d row :=
  ⟨k.os.trans h.os, k.tape.trans h.tape, k.output.trans h.output, Nat.le_trans h.size k.size, fun j hj hne => (k.block j (Nat.lt_of_lt_of_le hj h.size) (fun e => by have := hr j e.symm; omega)).trans (h.block j hj hne)⟩
theorem le_of_grown {w wr : World} {row : Option Nat} (h : w.grownBy wr row) (o : Obj) : w.heap.size ≤ (wr.alloc o).heap.size := by have := h.size; simp; omega
theorem info8d : (Tryz.prog.info? 5).map (fun i => (i.zero, i.size, i.bytes)) = some (some (.int .u8 0), 1, 1) := by kernel_rfl
theorem OwnB.keptBy {w w' : World} {B : Nat} {E : TypeId} {v : Value} {l : List UInt8} {row : Option Nat} (h : OwnB w B E v l) (hg : w.grownBy w' row) (hr : ∀ g, row = some g → g < B) : OwnB w' B E v l := by
  refine World.ownsRow.kept h hg ?_
  cases hv : v.ownBlock with
  | none => exact .inl rfl
  | some g => right; intro e; have h1 := hr g e.symm; have h2 := (OwnB.lt h g hv).1; omega

end Go.Proofs.YtjfllfancgmalaaGreat
namespace Go.Proofs.YtjfllfancgmalaaGreat
open Go.RowKit

theorem wf_u8_bd {n : Int} (h : (Lit.int .u8 n).wf = true) : 0 ≤ n ∧ n ≤ 255 := by
  simp [Lit.wf, IntKind.max, IntKind.min, IntKind.bits, IntKind.signed] at h; omega
theorem big_any (v : Value) (n : Nat) (hv : ∃ a cap, v = .slice a n cap) (w : World) :
    Calls Tryz.prog 4 #[v] w fun e w' => e = .returned (.bool (decide (1048576 < (n : Int)))) ∧ w = w' := by
  obtain ⟨a, cap, rfl⟩ := hv
  go_enter Tryz.func4, Tryz.ntmps4
  go_wp2_with fail
  go_ret
  exact ⟨rfl, rfl⟩
theorem code_slice {W : World} {v : Value} {n : Nat} (h : CodeAt W v n) : ∃ a cap, v = .slice a n cap := by
  rcases h with ⟨rfl, rfl⟩ | ⟨x, cap, rfl, _, _⟩
  · exact ⟨_, _, rfl⟩
  · exact ⟨_, _, rfl⟩
theorem below_of_grown {w w1 w2 : World} {c : Nat} (h1 : w.grownBy w1 none) (h2 : w1.grownBy w2 (some c)) (hc : w.heap.size ≤ c) : Below w.heap.size w w2 :=
  ((Below.refl _ w).grown h1 (Nat.le_refl _) (by simp)).grown h2 h1.size (fun k hk => by simp at hk; omega)

def IntIn (lo hi : Int) (w : World) (e : Ending) (w' : World) : Prop := ∃ x : Int, lo ≤ x ∧ x ≤ hi ∧ e = .returned (.int .i64 x) ∧ Below w.heap.size w w'
def TwoIn (lo hi lo' hi' : Int) (w : World) (e : Ending) (w' : World) : Prop := ∃ x y : Int, lo ≤ x ∧ x ≤ hi ∧ lo' ≤ y ∧ y ≤ hi' ∧ e = .returned (.tuple #[.int .i64 x, .int .i64 y]) ∧ Below w.heap.size w w'
def StrIn (most : Int) (w : World) (e : Ending) (w' : World) : Prop := ∃ s : ByteArray, (s.size : Int) ≤ most ∧ e = .returned (.string s) ∧ Below w.heap.size w w'

end Go.Proofs.YtjfllfancgmalaaGreat
namespace Go.Proofs.YtjfllfancgmalaaGreat
open Go.RowKit

def CurBool (W : World) (v : Value) (n c : Nat) (w : World) (e : Ending) (w' : World) : Prop :=
  ∃ b : Bool, e = .returned (.bool b) ∧ w.grownBy w' (some c) ∧ Cur W v n c w'
theorem once_any (W : World) (v : Value) (n : Nat) (hn : n ≤ 1048576) (hcode : CodeAt W v n) (c : Nat) (w : World) (hcur : Cur W v n c w) (m : Int) (h1 : 1 ≤ m) (h2 : m ≤ 4294967296) :
    Calls Tryz.prog 43 #[.pointer (some ⟨c, 0, none⟩), .int .i64 m] w (CurBool W v n c w) := by
  have HB := Lib.hid (below_any W v n hn hcode c w hcur m h1 h2)
  go_enter Tryz.func43, Tryz.ntmps43
  go_wp2_with fail
  refine HB.out.mono ?_
  rintro e w1 ⟨x, x0, x1, rfl, g1, hc1⟩
  go_wp2_with fail
  go_ret
  exact ⟨_, rfl, g1, hc1⟩
theorem pick4 (w : World) (C : Array Value) (hC : C = #[.int .i64 (-1), .int .i64 31, .int .i64 32, .int .i64 33]) (t : TypeId) :
    ∀ i, i < 4 → ∃ y : Int, -1 ≤ y ∧ y ≤ 33 ∧ (w.alloc (.cells C t)).cell? ⟨w.heap.size, i, none⟩ = some (.int .i64 y) := by
  intro i hi
  have e : (w.alloc (.cells C t)).cell? ⟨w.heap.size, i, none⟩ = C[i]? := World.cell?_alloc_mark w C t (0, 0) i
  rw [e, hC]
  rcases (show i = 0 ∨ i = 1 ∨ i = 2 ∨ i = 3 by omega) with rfl | rfl | rfl | rfl
  all_goals (refine ⟨_, ?_, ?_, rfl⟩ <;> decide)
theorem or_bd (a b : Int) : -9223372036854775808 ≤ bits .or .i64 a b ∧ bits .or .i64 a b ≤ 9223372036854775807 := by
  rw [show bits .or .i64 a b = IntKind.i64.wrap ((BitVec.ofInt 64 a ||| BitVec.ofInt 64 b).toNat : Int) from rfl, IntKind.wrap_i64]; omega
def TwoAny (w : World) (e : Ending) (w' : World) : Prop := ∃ x y : Int, -1 ≤ x ∧ x ≤ 33 ∧ -9223372036854775808 ≤ y ∧ y ≤ 9223372036854775807 ∧ e = .returned (.tuple #[.int .i64 x, .int .i64 y]) ∧ Below w.heap.size w w'
end Go.Proofs.YtjfllfancgmalaaGreat
namespace Go.Proofs.YtjfllfancgmalaaGreat
open Go.RowKit

def CurRow (W : World) (v : Value) (n c : Nat) (k : Nat) (wide : Int) (w : World) (e : Ending) (w' : World) : Prop :=
  ∃ u l, e = .returned u ∧ l.length = k ∧ (∀ x ∈ l, -1 ≤ x ∧ x < wide) ∧ OwnI w' w.heap.size u l ∧ w.grownBy w' (some c) ∧ Cur W v n c w'
set_option maxHeartbeats 1600000 in
theorem row_any (W : World) (v : Value) (n : Nat) (hn : n ≤ 1048576) (hcode : CodeAt W v n) (c : Nat) (w : World) (hcur : Cur W v n c w) (k : Nat) (hk : k ≤ 1000) (wide : Int) (h1 : 1 ≤ wide) (h2 : wide ≤ 1000000) :
    Calls Tryz.prog 70 #[.pointer (some ⟨c, 0, none⟩), .int .i64 (k : Int), .int .i64 wide] w (CurRow W v n c k wide w) := by
  have HB := Lib.hid (below_any W v n hn hcode c)
  have HO := Lib.hid (once_any W v n hn hcode c)
  obtain ⟨i0, hi, hz0, hz1, hz2⟩ := info_parts info3j
  have HI : Hid (_ ∧ _ ∧ _ ∧ _) := Lib.hid ⟨hi, hz0, hz1, hz2⟩
  clear hi hz0 hz1 hz2
  have hcw := hcur.lt
  have hWc : W.heap.size ≤ c := by obtain ⟨_, _, h, _⟩ := hcur; exact h
  have hcur0 := hcur.kept (World.grownBy_alloc w (.cells #[] 3) none) (by simp) (by simp)
  have hown0 : OwnI (w.alloc (.cells #[] 3)) w.heap.size (.slice (some ⟨w.heap.size, 0, none⟩) 0 0) [] :=
    OwnI.made (World.ownsRow_made w #[] 0 (Nat.le_refl _) (by unfold maxLen; omega) rfl)
  have hg0 : w.grownBy (w.alloc (.cells #[] 3)) (some c) := World.grownBy_alloc w _ _
  go_enter Tryz.func70, Tryz.ntmps70
  go_wp2_with fail
  go_loopw [7, 8] (fun ov iv wr => ∃ (j : Nat) (l : List Int), j ≤ k ∧ iv = .int .i64 (j : Int) ∧ Hid (l.length = j ∧ ∀ x ∈ l, -1 ≤ x ∧ x < wide) ∧ OwnI wr w.heap.size ov l ∧ w.grownBy wr (some c) ∧ Cur W v n c wr) (fun _ iv _ => k - (intOf iv).toNat)
  case atStart => exact ⟨0, [], by omega, rfl, Lib.hid ⟨rfl, by simp⟩, hown0, hg0, hcur0⟩
  case round =>
    clear hown0 hg0 hcur0
    obtain ⟨j, l, hj, rfl, hL, ho, hg, hc⟩ := hrel
    have hll : l.length = j := hL.out.1
    by_cases hlt : j < k
    · have z0 : (0 : Int) ≤ (j : Int) := by omega
      have z1 : (j : Int) < (k : Int) := by omega
      clear hll
      go_wp2_with fail
      refine (HB.out _ hc wide (by omega) (by omega)).mono ?_
      rintro e w1 ⟨x, x0, x1, rfl, g1, hc1⟩
      have ho1 := ho.keptBy g1 (fun g h e => by cases h; have := (ho.lt c e).1; omega)
      have hg1 := grown_trans hg g1
      clear g1 hc ho hg
      go_wp2_with fail
      refine (HO.out _ hc1 12 (by omega) (by omega)).mono ?_
      rintro e w2 ⟨b, rfl, g2, hc2⟩
      have ho2 := ho1.keptBy g2 (fun g h e => by cases h; have := (ho1.lt c e).1; omega)
      have hg2 := grown_trans hg1 g2
      clear g2 hc1 ho1 hg1
      have hlm : l.length ≤ 1000 := by have := hL.out.1; omega
      cases b with
      | true =>
        go_wp2_with (at_builtin; refine wpList_append_own _ rfl _ _ 52 rfl w.heap.size 3 i0 (.int .i64 0) 1 8 Tryz.underlying52 HI.out.1 HI.out.2.1 HI.out.2.2.1 HI.out.2.2.2 rfl (by decide) _ _ _ rfl (World.ownsRow.alloc ho2 _) ⟨w2.heap.size, 0, none⟩ 1 1 [.int .i64 (-1)] rfl rfl (cell_one_new _ _ _) (one_i64 _) (by unfold maxLen; omega) (by omega) (le_of_grown hg2 _) ?_; intro v' w4 hown' hgrow _)
        have ho4 := OwnI.snoc hown'
        have hg4 := grown_above (grown_trans hg2 (World.grownBy_alloc w2 _ _)) hgrow (fun g h => (OwnI.lt ho2 g h).1)
        have hc4 := (hc2.kept (World.grownBy_alloc w2 _ none) (by simp) (by simp)).kept hgrow (fun g h => by have := (OwnI.lt ho2 g h).1; omega) (fun h => by have := (OwnI.lt ho2 c h).1; omega)
        clear hown' hgrow
        go_wp2_with fail
        go_roundw
        case rel => exact ⟨j + 1, _, by omega, by go_num, Lib.hid ⟨by simp [hL.out.1], fun y hy => by
          rcases List.mem_append.1 hy with h | h
          · exact hL.out.2 y h
          · simp at h; omega⟩, ho4, hg4, hc4⟩
        case measure => simp [intOf]; omega
      | false =>
        go_wp2_with (at_builtin; refine wpList_append_own _ rfl _ _ 52 rfl w.heap.size 3 i0 (.int .i64 0) 1 8 Tryz.underlying52 HI.out.1 HI.out.2.1 HI.out.2.2.1 HI.out.2.2.2 rfl (by decide) _ _ _ rfl (World.ownsRow.alloc ho2 _) ⟨w2.heap.size, 0, none⟩ 1 1 [.int .i64 x] rfl rfl (cell_one_new _ _ _) (one_i64 _) (by unfold maxLen; omega) (by omega) (le_of_grown hg2 _) ?_; intro v' w4 hown' hgrow _)
        have ho4 := OwnI.snoc hown'
        have hg4 := grown_above (grown_trans hg2 (World.grownBy_alloc w2 _ _)) hgrow (fun g h => (OwnI.lt ho2 g h).1)
        have hc4 := (hc2.kept (World.grownBy_alloc w2 _ none) (by simp) (by simp)).kept hgrow (fun g h => by have := (OwnI.lt ho2 g h).1; omega) (fun h => by have := (OwnI.lt ho2 c h).1; omega)
        clear hown' hgrow
        go_wp2_with fail
        go_roundw
        case rel => exact ⟨j + 1, _, by omega, by go_num, Lib.hid ⟨by simp [hL.out.1], fun y hy => by
          rcases List.mem_append.1 hy with h | h
          · exact hL.out.2 y h
          · simp at h; omega⟩, ho4, hg4, hc4⟩
        case measure => simp [intOf]; omega
    · obtain rfl : j = k := by omega
      have hL2 := hL.out.2
      clear hll
      go_wp2_with fail
      go_ret
      exact ⟨_, _, rfl, hL.out.1, hL2, ho, hg, hc⟩
end Go.Proofs.YtjfllfancgmalaaGreat
