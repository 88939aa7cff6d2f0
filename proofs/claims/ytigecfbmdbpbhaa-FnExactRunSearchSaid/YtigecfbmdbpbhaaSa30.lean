/- Texts of this claim, merged: SrD, SeaM, DepL, SeaZ. Conditions: as stated. -/
import Derived.Test.YtigecfbmdbpbhaaSa28
import Derived.Test.YtigecfbmdbpbhaaSa23
import Derived.Test.YtigecfbmdbpbhaaSa11
import Derived.Test.YtigecfbmdbpbhaaSa13
import Derived.Test.YtigecfbmdbpbhaaSa14
namespace Go.Proofs.Ytigecfbmdbpbhaa
open Go.RowKit

/-- What a callee's search becomes when it is laid into the result's box. -/
theorem sea_fin {w w' : World} {B C : Nat} {u g : Value} {ll : List (List Int)} {F : List (Int × Int)} (ho : OwnSS w' B C u ll) (hd : OwnD w' C g F) (hB : w.heap.size + 1 < B) (hBC : B ≤ C) (hC : C ≤ w'.heap.size) (hb : Below w.heap.size w w') (b0 b1 b2 b3 b4 b5 : Value) :
    OwnSS ((((((w'.setCell ⟨w.heap.size + 1, 0, none⟩ b0).setCell ⟨w.heap.size + 1, 1, none⟩ b1).setCell ⟨w.heap.size + 1, 2, none⟩ b2).setCell ⟨w.heap.size + 1, 3, none⟩ b3).setCell ⟨w.heap.size + 1, 4, none⟩ b4).setCell ⟨w.heap.size + 1, 5, none⟩ b5) w.heap.size C u ll ∧
    OwnD ((((((w'.setCell ⟨w.heap.size + 1, 0, none⟩ b0).setCell ⟨w.heap.size + 1, 1, none⟩ b1).setCell ⟨w.heap.size + 1, 2, none⟩ b2).setCell ⟨w.heap.size + 1, 3, none⟩ b3).setCell ⟨w.heap.size + 1, 4, none⟩ b4).setCell ⟨w.heap.size + 1, 5, none⟩ b5) C g F ∧ w.heap.size ≤ C ∧
    C ≤ ((((((w'.setCell ⟨w.heap.size + 1, 0, none⟩ b0).setCell ⟨w.heap.size + 1, 1, none⟩ b1).setCell ⟨w.heap.size + 1, 2, none⟩ b2).setCell ⟨w.heap.size + 1, 3, none⟩ b3).setCell ⟨w.heap.size + 1, 4, none⟩ b4).setCell ⟨w.heap.size + 1, 5, none⟩ b5).heap.size ∧
    Below w.heap.size w ((((((w'.setCell ⟨w.heap.size + 1, 0, none⟩ b0).setCell ⟨w.heap.size + 1, 1, none⟩ b1).setCell ⟨w.heap.size + 1, 2, none⟩ b2).setCell ⟨w.heap.size + 1, 3, none⟩ b3).setCell ⟨w.heap.size + 1, 4, none⟩ b4).setCell ⟨w.heap.size + 1, 5, none⟩ b5) := by
  have hs := fun (X Y : Nat) (hX : w.heap.size + 1 < X) => six_same (B := X) (C := Y) w' (p := w.heap.size + 1) b0 b1 b2 b3 b4 b5 (.inl hX)
  exact ⟨(ho.same (hs B C hB)).base (by omega) (Nat.le_refl _), (hd.range.same (hs C w'.heap.size (by omega))).1, by omega, by simp; omega, six_below _ _ _ _ _ _ hb (by omega)⟩
theorem rsF_len (c : Int) (ll : List (List Int)) (m at_ : Int) (F : List (Int × Int)) (t b : Int) (hF : F.length ≤ 1048576) : (rsF c ll m at_ F t b).length ≤ 1048576 := by
  unfold rsF
  split
  · next h =>
    obtain ⟨C, K, n, rfl, rfl, rfl, hC1, hC5, hK, hN, -, -⟩ := isSB_all h
    have h1 := (repN_len C ll m (rnK (C : Int) ll m (K : Int) (n : Int) b)).1
    have h2 := (goN_le (C := C) (ll := ll) (m := m) (t0 := (n : Int)) (E := ((C * 2 ^ C : Nat) : Int)) (b := b) (C * 2 ^ C - K) K).2
    have h3 : rnK (C : Int) ll m (K : Int) (n : Int) b = goN C ll m (n : Int) ((C * 2 ^ C : Nat) : Int) b (C * 2 ^ C - K) K := rfl
    rw [show ((C : Int)).toNat = C from rfl]
    omega
  · exact hF
section
set_option maxRecDepth 20000
set_option maxHeartbeats 1600000
theorem implRunSearch_any (c m at_ t b : Int) (v f : Value) (ll : List (List Int)) (F : List (Int × Int)) (w : World) (hr : ReadSS w v ll) (hl : ll.length ≤ 1048576) (ht : ∀ i, i < ll.length → (ll.getD i []).length ≤ 1048576) (hf : ReadD w f F) (hF : F.length ≤ 1048576) :
    Calls Try.prog 26 #[srcV c v m at_ f t, .int .i64 b] w (RetSea c m (rsA c ll m at_ F t b) (rsT c ll m at_ F t b) ll (rsF c ll m at_ F t b) w) := by
  have HF := Lib.hid (fun w' (hb : Below w.heap.size w w') => implIsSearch_any c m at_ t v f ll F w' (hr.kept hb) hl ht (hf.kept hb) hF)
  have HCP := Lib.hid (fun w' (hb : Below w.heap.size w w') => seaCopied_any c m at_ t v f ll F w' (hr.kept hb) hl ht (hf.kept hb) hF)
  have HRR := Lib.hid (fun w' (hb : Below w.heap.size w w') => hr.kept hb)
  have HRF := Lib.hid (fun w' (hb : Below w.heap.size w w') => hf.kept hb)
  obtain ⟨a, cap, rfl, -⟩ := hr
  obtain ⟨af, capf, rfl, -⟩ := hf
  obtain ⟨hx, hy, hb⟩ := SBI.pair w (.int .i64 c) (.slice a ll.length cap) (.int .i64 m) (.int .i64 at_) (.slice af F.length capf) (.int .i64 t) (.int .i64 0) (.slice none 0 0) (.int .i64 0) (.int .i64 0) (.slice none 0 0) (.int .i64 0)
  have HX := Lib.hid hx
  have HY := Lib.hid hy
  have HB := Lib.hid hb
  obtain ⟨⟨c0, c1, c2, c3, c4, c5⟩, -⟩ := HX.out.cells
  clear hx hy hb ht
  cases hs : isSB c ll m at_ F t with
  | false =>
    have e1 : rsA c ll m at_ F t b = at_ := by unfold rsA; rw [hs]; rfl
    have e2 : rsT c ll m at_ F t b = t := by unfold rsT; rw [hs]; rfl
    have e3 : rsF c ll m at_ F t b = F := by unfold rsF; rw [hs]; rfl
    rw [hs] at HF
    rw [e1, e2, e3]
    unfold srcV at HF HCP ⊢
    clear hs e1 e2 e3
    go_enter Try.func26, Try.ntmps26
    go_wp2_with fail
    refine (HF.out _ HB.out).mono ?_
    rintro e w1 ⟨rfl, b1⟩
    have HB1 := Lib.hid (HB.out.trans (b1.mono HB.out.size))
    have HY1 := Lib.hid (HY.out.kept b1)
    have HX1 := Lib.hid (HX.out.kept b1)
    clear c0 c1 c2 c3 c4 c5 b1
    obtain ⟨⟨c0, c1, c2, c3, c4, c5⟩, -⟩ := HX1.out.cells
    go_wp2_with fail
    refine (HCP.out _ HB1.out).mono ?_
    rintro e w2 ⟨u, g, Cc, rfl, ou, og, hc1, hc2, b2⟩
    obtain ⟨au, capu, rfl, -⟩ := ou.read
    obtain ⟨ag, capg, rfl⟩ := og.shape
    have HFN := Lib.hid (sea_fin ou og HY1.out.lt hc1 hc2 (HB1.out.trans (b2.mono HB1.out.size)) (.int .i64 c) (.slice au ll.length capu) (.int .i64 m) (.int .i64 at_) (.slice ag F.length capg) (.int .i64 t))
    obtain ⟨⟨d0, d1, d2, d3, d4, d5⟩, g0, g1, g2, g3, g4, g5⟩ := (HY1.out.kept b2).cells
    unfold srcV
    clear c0 c1 c2 c3 c4 c5 ou og b2 hc1 hc2
    go_wp2_with fail
    exact bodyPost_ret (v := srcV c (.slice au ll.length capu) m at_ (.slice ag F.length capg) t) (by simp [srcV, results, Try.results26, go_sem, d0, d1, d2, d3, d4, d5]) rfl ⟨_, _, Cc, rfl, HFN.out⟩
  | true =>
    obtain ⟨C, K, n, rfl, rfl, rfl, hC1, hC5, hK, hN160, hfi, hrep⟩ := isSB_all hs
    obtain ⟨k9, hk9⟩ : ∃ k9, k9 = rnK (C : Int) ll m (K : Int) (n : Int) b := ⟨_, rfl⟩
    obtain ⟨⟨F9, n9⟩, h9⟩ : ∃ z, repN C ll m k9 = z := ⟨_, rfl⟩
    have e1 : rsA (C : Int) ll m (K : Int) F (n : Int) b = (k9 : Int) := by unfold rsA; rw [hs, ← hk9]; rfl
    have e2 : rsT (C : Int) ll m (K : Int) F (n : Int) b = (n9 : Int) := by unfold rsT; rw [hs, ← hk9, show ((C : Int)).toNat = C from rfl, h9]; rfl
    have e3 : rsF (C : Int) ll m (K : Int) F (n : Int) b = F9 := by unfold rsF; rw [hs, ← hk9, show ((C : Int)).toNat = C from rfl, h9]; rfl
    have HCO := Lib.hid (fun w' (hb : Below w.heap.size w w') => continued_any C K m 9223372036854775807 b _ _ ll F n w' (HRR.out w' hb) (HRF.out w' hb) hfi hK hrep k9 F9 n9 (by rw [if_pos (by omega)]; exact hk9.symm) h9)
    rw [hs] at HF
    rw [e1, e2, e3]
    unfold srcV at HF HCO ⊢
    clear hs e1 e2 e3 hk9 h9 hrep hfi hK hN160 HCP
    go_enter Try.func26, Try.ntmps26
    go_wp2_with fail
    refine (HF.out _ HB.out).mono ?_
    rintro e w1 ⟨rfl, b1⟩
    have HB1 := Lib.hid (HB.out.trans (b1.mono HB.out.size))
    have HY1 := Lib.hid (HY.out.kept b1)
    have HX1 := Lib.hid (HX.out.kept b1)
    clear c0 c1 c2 c3 c4 c5 b1
    obtain ⟨⟨c0, c1, c2, c3, c4, c5⟩, -⟩ := HX1.out.cells
    go_wp2_with fail
    refine (HCO.out _ HB1.out).mono ?_
    rintro e w2 ⟨u, g, Cc, rfl, ou, og, hc1, hc2, b2⟩
    obtain ⟨au, capu, rfl, -⟩ := ou.read
    obtain ⟨ag, capg, rfl⟩ := og.shape
    have HFN := Lib.hid (sea_fin ou og HY1.out.lt hc1 hc2 (HB1.out.trans (b2.mono HB1.out.size)) (.int .i64 (C : Int)) (.slice au ll.length capu) (.int .i64 m) (.int .i64 (k9 : Int)) (.slice ag F9.length capg) (.int .i64 (n9 : Int)))
    obtain ⟨⟨d0, d1, d2, d3, d4, d5⟩, g0, g1, g2, g3, g4, g5⟩ := (HY1.out.kept b2).cells
    unfold srcV
    clear c0 c1 c2 c3 c4 c5 ou og b2 hc1 hc2
    go_wp2_with fail
    exact bodyPost_ret (v := srcV (C : Int) (.slice au ll.length capu) m (k9 : Int) (.slice ag F9.length capg) (n9 : Int)) (by simp [srcV, results, Try.results26, go_sem, d0, d1, d2, d3, d4, d5]) rfl ⟨_, _, Cc, rfl, HFN.out⟩
end
end Go.Proofs.Ytigecfbmdbpbhaa
namespace Go.Proofs.Ytigecfbmdbpbhaa
open Go.RowKit

/-- A search and its box, to be read. -/
structure Fz (w : World) (b : Nat) (c m at_ t : Int) (u g : Value) (ll : List (List Int)) (F : List (Int × Int)) : Prop where
  rs : ReadSS w u ll
  rd : ReadD w g F
  bx : SBx w b c u m at_ g t
theorem Fz.kept {w w' : World} {b : Nat} {c m at_ t : Int} {u g : Value} {ll : List (List Int)} {F : List (Int × Int)} (h : Fz w b c m at_ t u g ll F) (hb : Below w.heap.size w w') : Fz w' b c m at_ t u g ll F := ⟨h.rs.kept hb, h.rd.kept hb, h.bx.kept hb⟩
/-- A search whose rows are blocks from B on and below C, what was found below D, and its box b. -/
structure Ms (w : World) (B C D b : Nat) (c m at_ t : Int) (u g : Value) (ll : List (List Int)) (F : List (Int × Int)) : Prop where
  ss : OwnSS w B C u ll
  dr : OwnDR w C D g F
  bx : SBx w b c u m at_ g t
  le : B ≤ C ∧ C ≤ D ∧ D ≤ b ∧ b < w.heap.size
theorem SBx.eqb {w w' : World} {b : Nat} {c m at_ t : Int} {v f : Value} (h : SBx w b c v m at_ f t) (e : w'.heap[b]? = w.heap[b]?) : SBx w' b c v m at_ f t :=
  ⟨⟨cell_eqb h.1.1 e, cell_eqb h.1.2 e⟩, ⟨cell_eqb h.2.1.1 e, cell_eqb h.2.1.2 e⟩, cell_eqb h.2.2.1 e, cell_eqb h.2.2.2 e⟩
section
variable {w w' : World} {B C D b : Nat} {c m at_ t : Int} {u g : Value} {ll : List (List Int)} {F : List (Int × Int)}
theorem Ms.kept (h : Ms w B C D b c m at_ t u g ll F) (hb : Below w.heap.size w w') : Ms w' B C D b c m at_ t u g ll F := by
  obtain ⟨h1, h2, h3, h4⟩ := h.le
  exact ⟨h.ss.same (Below.keeps hb (by omega)), h.dr.same (Below.keeps hb (by omega)), h.bx.kept hb, h1, h2, h3, Nat.lt_of_lt_of_le h4 hb.size⟩
theorem Ms.mid (h : Ms w B C D b c m at_ t u g ll F) {B' D' : Nat} (hm : Mid B' D' w w') (hd : D' ≤ B ∨ b < B') : Ms w' B C D b c m at_ t u g ll F := by
  obtain ⟨h1, h2, h3, h4⟩ := h.le
  have hs : ∀ k, B ≤ k → k ≤ b → w'.heap[k]? = w.heap[k]? := fun k hk1 hk2 => hm.block k (by omega) (by omega)
  exact ⟨h.ss.same (fun k hk1 hk2 => hs k hk1 (by omega)), h.dr.same (fun k hk1 hk2 => hs k (by omega) (by omega)), h.bx.eqb (hs b (by omega) (Nat.le_refl _)), h1, h2, h3, Nat.lt_of_lt_of_le h4 hm.size⟩
/-- What a call answered, laid into a box. -/
theorem Ms.laid (ho : OwnSS w B C u ll) (hd : OwnD w C g F) (hBC : B ≤ C) (hC : C ≤ w.heap.size) : Ms (w.alloc (.cells #[.int .i64 c, u, .int .i64 m, .int .i64 at_, g, .int .i64 t] 29)) B C w.heap.size w.heap.size c m at_ t u g ll F := by
  have hal := (Below.refl w.heap.size w).alloc (Nat.le_refl _) (.cells #[.int .i64 c, u, .int .i64 m, .int .i64 at_, g, .int .i64 t] 29)
  exact ⟨ho.same (Below.keeps hal hC), hd.range.same (Below.keeps hal (Nat.le_refl _)), SBx.mk' w 29 c u m at_ g t, hBC, hC, Nat.le_refl _, by simp⟩
theorem Fz.laid (hr : ReadSS w u ll) (hd : ReadD w g F) : Fz (w.alloc (.cells #[.int .i64 c, u, .int .i64 m, .int .i64 at_, g, .int .i64 t] 29)) w.heap.size c m at_ t u g ll F := by
  have hal := (Below.refl w.heap.size w).alloc (Nat.le_refl _) (.cells #[.int .i64 c, u, .int .i64 m, .int .i64 at_, g, .int .i64 t] 29)
  exact ⟨hr.kept hal, hd.kept hal, SBx.mk' w 29 c u m at_ g t⟩
/-- A search is marked. -/
theorem Ms.mark (h : Ms w B C D b c m at_ t u g ll F) (hl : ll.length ≤ 1048576) (ht : tot ll ≤ 1048576) (hF : F.length ≤ 1048576) :
    Calls Try.prog 16 #[srcV c u m at_ g t, .int .i64 1] w fun e w' => e = .returned (.int .i64 (1 + (tot ll : Int) + 2 * (F.length : Int))) ∧ Mid B D w w' ∧ Ms w' B C D b c m at_ t u g (upRows 1 ll) (upD (1 + (tot ll : Int)) F.length) := by
  obtain ⟨h1, h2, h3, h4⟩ := h.le
  refine (markSearch_any c m at_ t u g ll F 1 B C D w h.ss h.dr h1 h2 (by omega) hl ht hF (by omega) (by omega)).mono ?_
  rintro e w' ⟨rfl, a1, a2, a3⟩
  exact ⟨rfl, a3, a1, a2, h.bx.eqb (a3.block b h4 (.inr h3)), h1, h2, h3, Nat.lt_of_lt_of_le h4 a3.size⟩
/-- A marked search still holds its marks. -/
theorem Ms.held {n : Nat} (h : Ms w B C D b c m at_ t u g (upRows 1 ll) (upD (1 + (tot ll : Int)) n)) (hl : ll.length ≤ 1048576) (ht : tot ll ≤ 1048576) (hF : n ≤ 1048576) :
    Calls Try.prog 17 #[srcV c u m at_ g t, .int .i64 1] w fun e w' => e = .returned (.int .i64 (1 + (tot ll : Int) + 2 * (n : Int))) ∧ Below w.heap.size w w' :=
  heldSearch_any c m at_ t u g ll n 1 w h.ss.read h.dr.read hl ht hF (by omega) (by omega)
end
end Go.Proofs.Ytigecfbmdbpbhaa
namespace Go.Proofs.Ytigecfbmdbpbhaa
open Go.RowKit

theorem keepTD {W1 w' w'' : World} {p0 p1 p2 p3 : Addr} {v0 v1 v2 v3 : Value} (h : ((w'.cell? p0 = some v0 ∧ w'.cell? p1 = some v1) ∧ w'.cell? p2 = some v2 ∧ w'.cell? p3 = some v3) ∧ Below W1.heap.size W1 w') (b : Below w'.heap.size w' w'') :
    ((w''.cell? p0 = some v0 ∧ w''.cell? p1 = some v1) ∧ w''.cell? p2 = some v2 ∧ w''.cell? p3 = some v3) ∧ Below W1.heap.size W1 w'' :=
  ⟨⟨⟨(b.cell (World.block_lt_of_cell? _ _ h.1.1.1)).trans h.1.1.1, (b.cell (World.block_lt_of_cell? _ _ h.1.1.2)).trans h.1.1.2⟩, (b.cell (World.block_lt_of_cell? _ _ h.1.2.1)).trans h.1.2.1, (b.cell (World.block_lt_of_cell? _ _ h.1.2.2)).trans h.1.2.2⟩, h.2.trans (b.mono h.2.size)⟩
theorem keepXD {W1 w' w'' : World} {p0 p1 p2 p3 p4 p5 : Addr} {v0 v1 v2 v3 v4 v5 u : Value} {ll : List (List Int)} (h : ((w'.cell? p0 = some v0 ∧ w'.cell? p1 = some v1) ∧ w'.cell? p2 = some v2 ∧ w'.cell? p3 = some v3) ∧ (w'.cell? p4 = some v4 ∧ w'.cell? p5 = some v5) ∧ ReadSS w' u ll ∧ Below W1.heap.size W1 w') (b : Below w'.heap.size w' w'') :
    ((w''.cell? p0 = some v0 ∧ w''.cell? p1 = some v1) ∧ w''.cell? p2 = some v2 ∧ w''.cell? p3 = some v3) ∧ (w''.cell? p4 = some v4 ∧ w''.cell? p5 = some v5) ∧ ReadSS w'' u ll ∧ Below W1.heap.size W1 w'' := by
  obtain ⟨h1, h2, h3, h4⟩ := h
  exact ⟨(keepTD ⟨h1, h4⟩ b).1, ⟨(b.cell (World.block_lt_of_cell? _ _ h2.1)).trans h2.1, (b.cell (World.block_lt_of_cell? _ _ h2.2)).trans h2.2⟩, h3.kept b, h4.trans (b.mono h4.size)⟩
end Go.Proofs.Ytigecfbmdbpbhaa
namespace Go.Proofs.Ytigecfbmdbpbhaa
open Go.RowKit

def szL2 (L : Int) (a b : Nat) : Int := if (a : Int) + (b : Int) ≤ L then L - (a : Int) - (b : Int) else -1
section
set_option maxRecDepth 20000
set_option maxHeartbeats 1600000
theorem szSearchL_any (L c m at_ t : Int) (h0 : 0 ≤ L) (h1L : L ≤ 1048576) (v f : Value) (ll : List (List Int)) (F : List (Int × Int)) (w : World) (hr : ReadSS w v ll) (hs : Short ll) (hf : ReadD w f F) (hF : F.length ≤ 9223372036854775807) :
    Calls Try.prog 18 #[srcV c v m at_ f t, .int .i64 L] w fun e w' => e = .returned (.int .i64 (szL2 L (szOf ll) F.length)) ∧ Below w.heap.size w w' := by
  have HT := Lib.hid (fun w' (hb : Below w.heap.size w w') => szTable_any c v ll w' (hr.kept hb) hs L (by omega) (by omega))
  have HD := Lib.hid (fun left w' (hb : Below w.heap.size w w') h0 h1 => szDepS_any f F w' (hf.kept hb) left h0 h1 hF)
  have hb1 := (Below.refl w.heap.size w).alloc (Nat.le_refl _) (.cells #[.int .i64 c, v, .int .i64 m, .int .i64 at_, f, .int .i64 t] 40)
  have HSB := Lib.hid (SBx.mk' w 40 c v m at_ f t)
  have HB1 := Lib.hid hb1
  obtain ⟨a, cap, rfl, -⟩ := hr
  obtain ⟨af, capf, rfl, -⟩ := hf
  obtain ⟨⟨c0, c1⟩, ⟨c2, c3⟩, c4, c5⟩ := HSB.out
  obtain ⟨A, hA⟩ : ∃ A, A = szOf ll := ⟨_, rfl⟩
  rw [← hA] at HT ⊢
  unfold srcV
  clear hb1 hs hA
  by_cases h1 : (A : Int) ≤ L
  · rw [szD_ok h1] at HT
    have hn : ¬ (L - (A : Int) < 0) := by omega
    by_cases h2 : (A : Int) + (F.length : Int) ≤ L
    · have HE : Hid (szL2 L A F.length = L - (A : Int) - (F.length : Int)) := Lib.hid (by unfold szL2; rw [if_pos h2])
      have hn2 : ¬ (L - (A : Int) - (F.length : Int) < 0) := by omega
      have HDX := Lib.hid (fun w' hb => HD.out (L - (A : Int)) w' hb (by omega) (by omega))
      rw [szD_ok (by omega)] at HDX
      go_enter Try.func18, Try.ntmps18
      go_wp2_with fail
      refine (HT.out _ HB1.out).mono ?_
      rintro e w1 ⟨rfl, b1⟩
      have hb3 := HB1.out.trans (b1.mono HB1.out.size)
      have HS1 := Lib.hid (HSB.out.kept b1)
      clear b1 c0 c1 c2 c3 c4 c5
      obtain ⟨⟨c0, c1⟩, ⟨c2, c3⟩, c4, c5⟩ := HS1.out
      go_wp2_with fail
      refine (HDX.out _ hb3).mono ?_
      rintro e w2 ⟨rfl, rfl⟩
      go_wp2_with fail
      go_ret
      exact ⟨ret_int HE.out.symm, hb3⟩
    · have HE : Hid (szL2 L A F.length = -1) := Lib.hid (by unfold szL2; rw [if_neg h2])
      have HDX := Lib.hid (fun w' hb => HD.out (L - (A : Int)) w' hb (by omega) (by omega))
      rw [szD_no (by omega)] at HDX
      go_enter Try.func18, Try.ntmps18
      go_wp2_with fail
      refine (HT.out _ HB1.out).mono ?_
      rintro e w1 ⟨rfl, b1⟩
      have hb3 := HB1.out.trans (b1.mono HB1.out.size)
      have HS1 := Lib.hid (HSB.out.kept b1)
      clear b1 c0 c1 c2 c3 c4 c5
      obtain ⟨⟨c0, c1⟩, ⟨c2, c3⟩, c4, c5⟩ := HS1.out
      go_wp2_with fail
      refine (HDX.out _ hb3).mono ?_
      rintro e w2 ⟨rfl, rfl⟩
      go_wp2_with fail
      go_ret
      exact ⟨ret_int HE.out.symm, hb3⟩
  · rw [szD_no h1] at HT
    have HE : Hid (szL2 L A F.length = -1) := Lib.hid (by unfold szL2; rw [if_neg (by omega)])
    go_enter Try.func18, Try.ntmps18
    go_wp2_with fail
    refine (HT.out _ HB1.out).mono ?_
    rintro e w1 ⟨rfl, b1⟩
    have hb3 := HB1.out.trans (b1.mono HB1.out.size)
    go_wp2_with fail
    go_ret
    exact ⟨ret_int HE.out.symm, hb3⟩
end
end Go.Proofs.Ytigecfbmdbpbhaa
