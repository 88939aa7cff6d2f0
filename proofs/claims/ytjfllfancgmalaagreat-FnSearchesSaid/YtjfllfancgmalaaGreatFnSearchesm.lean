/- FnSearches, the walk. Conditions: the code is a readable slice of at most 1048576 bytes. -/
import Derived.Test.YtjfllfancgmalaaGreatSc39
import Derived.Deep.RegionLaw
import Derived.Deep.CutBlock
import Derived.Deep.DeepCutAuto
namespace Go.Proofs.YtjfllfancgmalaaGreat
open Go.RowKit

/-- A search in a box of its own, in readable memory. -/
structure BX (x : World) (T : Nat) (c m at_ t : Int) (u g : Value) (ll : List (List Int)) (F : List (Int × Int)) : Prop where
  b : SBI x T (.int .i64 c) u (.int .i64 m) (.int .i64 at_) g (.int .i64 t)
  s : ReadSS x u ll
  d : ReadD x g F
theorem BX.kept {x y : World} {T : Nat} {c m at_ t : Int} {u g : Value} {ll : List (List Int)} {F : List (Int × Int)} (h : BX x T c m at_ t u g ll F) (hb : Below x.heap.size x y) : BX y T c m at_ t u g ll F := ⟨h.b.kept hb, h.s.kept hb, h.d.kept hb⟩
theorem BX.new {w : World} {u g : Value} {ll : List (List Int)} {F : List (Int × Int)} (s : ReadSS w u ll) (d : ReadD w g F) {c m at_ t : Int} : BX (w.alloc (.cells #[.int .i64 c, u, .int .i64 m, .int .i64 at_, g, .int .i64 t] 29)) w.heap.size c m at_ t u g ll F :=
  ⟨SBI.new _ _ _ _ _ _ _, s.kept ((Below.refl _ _).alloc (Nat.le_refl _) _), d.kept ((Below.refl _ _).alloc (Nat.le_refl _) _)⟩
/-- A dependency in a box of its own. -/
def DX (x : World) (T : Nat) (a b : Int) : Prop := x.cell? ⟨T, 0, none⟩ = some (.int .i64 a) ∧ x.cell? ⟨T, 1, none⟩ = some (.int .i64 b)
theorem DX.kept {x y : World} {T : Nat} {a b : Int} (h : DX x T a b) (hb : Below x.heap.size x y) : DX y T a b :=
  ⟨(hb.cell (World.block_lt_of_cell? _ _ h.1)).trans h.1, (hb.cell (World.block_lt_of_cell? _ _ h.2)).trans h.2⟩
/-- A table in a box of its own, in readable memory. -/
def TBX (x : World) (T : Nat) (c : Int) (u : Value) (ll : List (List Int)) : Prop := (x.cell? ⟨T, 0, none⟩ = some (.int .i64 c) ∧ x.cell? ⟨T, 1, none⟩ = some u) ∧ ReadSS x u ll
theorem TBX.kept {x y : World} {T : Nat} {c : Int} {u : Value} {ll : List (List Int)} (h : TBX x T c u ll) (hb : Below x.heap.size x y) : TBX y T c u ll :=
  ⟨⟨(hb.cell (World.block_lt_of_cell? _ _ h.1.1)).trans h.1.1, (hb.cell (World.block_lt_of_cell? _ _ h.1.2)).trans h.1.2⟩, h.2.kept hb⟩
theorem TBX.new {w : World} {c : Int} {u : Value} {ll : List (List Int)} (s : ReadSS w u ll) : TBX (w.alloc (.cells #[.int .i64 c, u] 26)) w.heap.size c u ll :=
  ⟨zero2 w 26 (.int .i64 c) u, s.kept ((Below.refl _ _).alloc (Nat.le_refl _) _)⟩
theorem keepSx {x y : World} {T : Nat} {a0 a1 a2 a3 a4 a5 : Value} (h : x.cell? ⟨T, 0, none⟩ = some a0 ∧ x.cell? ⟨T, 1, none⟩ = some a1 ∧ x.cell? ⟨T, 2, none⟩ = some a2 ∧ x.cell? ⟨T, 3, none⟩ = some a3 ∧ x.cell? ⟨T, 4, none⟩ = some a4 ∧ x.cell? ⟨T, 5, none⟩ = some a5) (hb : Below x.heap.size x y) :
    y.cell? ⟨T, 0, none⟩ = some a0 ∧ y.cell? ⟨T, 1, none⟩ = some a1 ∧ y.cell? ⟨T, 2, none⟩ = some a2 ∧ y.cell? ⟨T, 3, none⟩ = some a3 ∧ y.cell? ⟨T, 4, none⟩ = some a4 ∧ y.cell? ⟨T, 5, none⟩ = some a5 := by
  obtain ⟨h0, h1, h2, h3, h4, h5⟩ := h
  have hk : ∀ o v, x.cell? ⟨T, o, none⟩ = some v → y.cell? ⟨T, o, none⟩ = some v := fun o v h => (hb.cell (World.block_lt_of_cell? _ _ h)).trans h
  exact ⟨hk _ _ h0, hk _ _ h1, hk _ _ h2, hk _ _ h3, hk _ _ h4, hk _ _ h5⟩
theorem few {ll : List (List Int)} (h : ∀ r ∈ ll, r.length ≤ 10) : ∀ i, i < ll.length → (ll.getD i []).length ≤ 1048576 := fun i hi => by
  have := h (ll.getD i []) (by rw [List.getD_eq_getElem?_getD, List.getElem?_eq_getElem hi]; exact List.getElem_mem hi)
  omega
set_option maxRecDepth 100000 in
set_option maxHeartbeats 12800000 in
theorem law_walk (v : Value) (n : Nat) (w : World) (hcode : CodeAt w v n) (hn : n ≤ 1048576) :
    Calls Tryz.prog 3 #[v] w fun e w' => e = .returned (.bool true) ∧ Below w.heap.size w w' := by
  have HBIG := Lib.hid (big_any v n (code_slice hcode))
  have HD1 := Lib.hid (drawRunSearch_any w v n hn hcode)
  have HD2 := Lib.hid (drawIsSearched_any w v n hn hcode)
  have HD3 := Lib.hid (drawNewSearch_any w v n hn hcode)
  have hbig : decide (1048576 < (n : Int)) = false := by simp; omega
  obtain ⟨a, cap, rfl⟩ := code_slice hcode
  go_enter Tryz.func3, Tryz.ntmps3
  go_wp2_with fail
  refine (HBIG.out _).mono ?_
  rintro e w' ⟨rfl, rfl⟩
  go_wp2_with fail
  refine (HD1.out _ (Below.refl _ _)).mono ?_
  rintro e w1 ⟨cc, m, at_, t, u, g, ll, F, bud, q0, q1, rfl, hll, hlr, hF, rss, rdd, hb⟩
  obtain ⟨au, cu, rfl, -⟩ := id rss
  obtain ⟨ag, cg, rfl, -⟩ := id rdd
  obtain ⟨A1, T1, F1, M, A3, T3, F3, p, A2, T2, F2, nb, d1, d2, lp⟩ := lp_of (c := cc) (m := m) (at_ := at_) (t := t) (bud := bud) (ll := ll) (F := F) (by omega) (few hlr) hF
  have LP := Lib.hid lp
  have HB := Lib.hid hb
  have HCL := Lib.hid hn
  have hF1 := lp.f1
  clear lp hb hbig HBIG HD1 hll hlr hF q0 q1
  unfold srcV
  have HS := Lib.hid (BX.new rss rdd (c := cc) (m := m) (at_ := at_) (t := t))
  have hal := (Below.refl w1.heap.size w1).alloc (Nat.le_refl _) (.cells #[.int .i64 cc, (.slice au ll.length cu), .int .i64 m, .int .i64 at_, (.slice ag F.length cg), .int .i64 t] 29)
  replace HB := Lib.hid (HB.out.trans (hal.mono HB.out.size))
  clear hal rss rdd
  go_upto_region 4 with fail
  obtain ⟨T0, hT⟩ : ∃ T, T = w1.heap.size := ⟨_, rfl⟩
  obtain ⟨w2, hw⟩ : ∃ w', w' = w1.alloc (.cells #[.int .i64 cc, (.slice au ll.length cu), .int .i64 m, .int .i64 at_, (.slice ag F.length cg), .int .i64 t] 29) := ⟨_, rfl⟩
  rw [← hw] at HS  HB ⊢
  rw [← hT] at HS ⊢
  clear hT hw
  obtain ⟨⟨c0, c1, c2, c3, c4, c5⟩, -⟩ := HS.out.b.cells
  go_wp2_with fail
  refine (LP.out.run1 _ _ _ HS.out.s HS.out.d).mono ?_
  rintro e w3 ⟨u1, g1, rfl, s1, e1, b3⟩
  replace HB := Lib.hid (HB.out.trans (b3.mono HB.out.size))
  replace HS := Lib.hid (HS.out.kept b3)
  clear c0 c1 c2 c3 c4 c5 b3
  obtain ⟨au1, cu1, rfl, -⟩ := id s1
  obtain ⟨ag1, cg1, rfl, -⟩ := id e1
  unfold srcV
  have HX := Lib.hid (BX.new s1 e1 (c := cc) (m := m) (at_ := A1) (t := T1))
  have hal := (Below.refl w3.heap.size w3).alloc (Nat.le_refl _) (.cells #[.int .i64 cc, (.slice au1 ll.length cu1), .int .i64 m, .int .i64 A1, (.slice ag1 F1.length cg1), .int .i64 T1] 29)
  replace HB := Lib.hid (HB.out.trans (hal.mono HB.out.size))
  replace HS := Lib.hid (HS.out.kept hal)
  clear hal s1 e1
  go_upto_region 5 with fail
  obtain ⟨TX, hT⟩ : ∃ T, T = w3.heap.size := ⟨_, rfl⟩
  obtain ⟨w4, hw⟩ : ∃ w', w' = w3.alloc (.cells #[.int .i64 cc, (.slice au1 ll.length cu1), .int .i64 m, .int .i64 A1, (.slice ag1 F1.length cg1), .int .i64 T1] 29) := ⟨_, rfl⟩
  rw [← hw] at HX HS HB ⊢
  rw [← hT] at HX ⊢
  clear hT hw
  refine wp_region_noPanic ?_
  refine wp_region_held_drew (S := (fun w' => ((w'.cell? ⟨TX, 0, none⟩ = some (.int .i64 cc) ∧ w'.cell? ⟨TX, 1, none⟩ = some (.slice au1 ll.length cu1) ∧ w'.cell? ⟨TX, 2, none⟩ = some (.int .i64 m) ∧ w'.cell? ⟨TX, 3, none⟩ = some (.int .i64 A1) ∧ w'.cell? ⟨TX, 4, none⟩ = some (.slice ag1 F1.length cg1) ∧ w'.cell? ⟨TX, 5, none⟩ = some (.int .i64 T1)) ∧ (w'.cell? ⟨T0, 0, none⟩ = some (.int .i64 cc) ∧ w'.cell? ⟨T0, 1, none⟩ = some (.slice au ll.length cu) ∧ w'.cell? ⟨T0, 2, none⟩ = some (.int .i64 m) ∧ w'.cell? ⟨T0, 3, none⟩ = some (.int .i64 at_) ∧ w'.cell? ⟨T0, 4, none⟩ = some (.slice ag F.length cg) ∧ w'.cell? ⟨T0, 5, none⟩ = some (.int .i64 t))) ∧ Below w4.heap.size w4 w')) (by kernel_rfl) ?_ (fun hHeld => ?_)
  · ((try dsimp only); exact ⟨⟨HX.out.b.cells.1, HS.out.b.cells.1⟩, (Below.refl _ _).drew⟩)
  refine wpAnyH_take (i := 0) (v := ?_) rfl (by kernel_rfl) (by kernel_rfl) (by kernel_rfl) (fun _ _ _ h => h) (Or.inl ⟨by rfl, ?_⟩) (by assumption) ?_
  rotate_left
  · (intro w hSw; (try dsimp only at hSw); go_simp; (try with_reducible rfl))
  (try simp only [Act.put, List.getElem_toArray, List.getElem_cons_zero, List.setIfInBounds_toArray, List.set_cons_zero, List.set_cons_succ])
  refine wpAnyH_take (i := 1) (v := ?_) rfl (by kernel_rfl) (by kernel_rfl) (by kernel_rfl) (fun _ _ _ h => h) (Or.inl ⟨by rfl, ?_⟩) (by assumption) ?_
  rotate_left
  · (intro w hSw; (try dsimp only at hSw); go_simp; (try with_reducible rfl))
  (try simp only [Act.put, List.getElem_toArray, List.getElem_cons_succ, List.getElem_cons_zero, List.setIfInBounds_toArray, List.set_cons_zero, List.set_cons_succ])
  refine wpAnyH_take (i := 2) (v := ?_) rfl (by kernel_rfl) (by kernel_rfl) (by kernel_rfl) (fun _ _ _ h => h) (Or.inl ⟨by rfl, ?_⟩) (by assumption) ?_
  rotate_left
  · (intro w hSw; (try dsimp only at hSw); go_simp; (try with_reducible rfl))
  (try simp only [Act.put, List.getElem_toArray, List.getElem_cons_succ, List.getElem_cons_zero, List.setIfInBounds_toArray, List.set_cons_zero, List.set_cons_succ])
  refine wpAnyH_ready (rs := [3]) (by kernel_rfl) (by simp) (AllReadyH.cons rfl (fun K hK => ?_) AllReadyH.nil)
  (first | (go_at_call 8; refine (LP.out.run2 _ _ _ (HS.out.s.kept hHeld.2) (HS.out.d.kept hHeld.2)).mono ?_; rintro e w91 ⟨u91, g91, rfl, s91, e91, b91⟩) | (go_simp; go_at_call 8; refine (LP.out.run2 _ _ _ (HS.out.s.kept hHeld.2) (HS.out.d.kept hHeld.2)).mono ?_; rintro e w91 ⟨u91, g91, rfl, s91, e91, b91⟩))
  (try (go_wp2_with fail))
  refine hK.out _ _ ?_ (fun hHeld => ?_)
  · ((try dsimp only); exact ⟨⟨keepSx hHeld.1.1 b91, keepSx hHeld.1.2 b91⟩, hHeld.2.trans (b91.mono hHeld.2.size)⟩)
  clear hK K
  (try simp only [Act.put, List.getElem_toArray, List.getElem_cons_succ, List.getElem_cons_zero, List.setIfInBounds_toArray, List.set_cons_zero, List.set_cons_succ])
  refine wpAnyH_ready (rs := [4]) (by kernel_rfl) (by simp) (AllReadyH.cons rfl (fun K hK => ?_) AllReadyH.nil)
  (first | (go_at_call 7; refine (LP.out.eq1 _ _ _ _ _ (HX.out.s.kept hHeld.2) s91 (HX.out.d.kept hHeld.2) e91).mono ?_; rintro e w92 ⟨rfl, b92⟩) | (go_simp; go_at_call 7; refine (LP.out.eq1 _ _ _ _ _ (HX.out.s.kept hHeld.2) s91 (HX.out.d.kept hHeld.2) e91).mono ?_; rintro e w92 ⟨rfl, b92⟩))
  (try (go_wp2_with fail))
  refine hK.out _ _ ?_ (fun hHeld => ?_)
  · ((try dsimp only); exact ⟨⟨keepSx hHeld.1.1 b92, keepSx hHeld.1.2 b92⟩, hHeld.2.trans (b92.mono hHeld.2.size)⟩)
  clear hK K
  (try simp only [Act.put, List.getElem_toArray, List.getElem_cons_succ, List.getElem_cons_zero, List.setIfInBounds_toArray, List.set_cons_zero, List.set_cons_succ])
  refine wpAnyH_take (i := 5) (v := ?_) rfl (by kernel_rfl) (by kernel_rfl) (by kernel_rfl) (fun _ _ _ h => h) (Or.inl ⟨by rfl, ?_⟩) (by assumption) ?_
  rotate_left
  · (intro w hSw; (try dsimp only at hSw); go_simp; (try with_reducible rfl))
  (try simp only [Act.put, List.getElem_toArray, List.getElem_cons_succ, List.getElem_cons_zero, List.setIfInBounds_toArray, List.set_cons_zero, List.set_cons_succ])
  refine wpAnyH_take (i := 6) (v := ?_) rfl (by kernel_rfl) (by kernel_rfl) (by kernel_rfl) (fun _ _ _ h => h) (Or.inl ⟨by rfl, ?_⟩) (by assumption) ?_
  rotate_left
  · (intro w hSw; (try dsimp only at hSw); go_simp; (try with_reducible rfl))
  (try simp only [Act.put, List.getElem_toArray, List.getElem_cons_succ, List.getElem_cons_zero, List.setIfInBounds_toArray, List.set_cons_zero, List.set_cons_succ])
  refine wpAnyH_take (i := 7) (v := ?_) rfl (by kernel_rfl) (by kernel_rfl) (by kernel_rfl) (fun _ _ _ h => h) (Or.inl ⟨by rfl, ?_⟩) (by assumption) ?_
  rotate_left
  · (intro w hSw; (try dsimp only at hSw); go_simp; (try with_reducible rfl))
  (try simp only [Act.put, List.getElem_toArray, List.getElem_cons_succ, List.getElem_cons_zero, List.setIfInBounds_toArray, List.set_cons_zero, List.set_cons_succ])
  refine wpAnyH_take (i := 9) (v := ?_) rfl (by kernel_rfl) (by kernel_rfl) (by kernel_rfl) (fun _ _ _ h => h) (Or.inl ⟨by rfl, ?_⟩) (by assumption) ?_
  rotate_left
  · (intro w hSw; (try dsimp only at hSw); go_simp; (try with_reducible rfl))
  (try simp only [Act.put, List.getElem_toArray, List.getElem_cons_succ, List.getElem_cons_zero, List.setIfInBounds_toArray, List.set_cons_zero, List.set_cons_succ])
  refine wpAnyH_ready (rs := [8]) (by kernel_rfl) (by simp) (AllReadyH.cons rfl (fun K hK => ?_) AllReadyH.nil)
  (first | (go_at_call 9; refine (LP.out.is1 _ _ _ (HS.out.s.kept hHeld.2) (HS.out.d.kept hHeld.2)).mono ?_; rintro e w93 ⟨rfl, b93⟩) | (go_simp; go_at_call 9; refine (LP.out.is1 _ _ _ (HS.out.s.kept hHeld.2) (HS.out.d.kept hHeld.2)).mono ?_; rintro e w93 ⟨rfl, b93⟩))
  (try (go_wp2_with fail))
  refine hK.out _ _ ?_ (fun hHeld => ?_)
  · ((try dsimp only); exact ⟨⟨keepSx hHeld.1.1 b93, keepSx hHeld.1.2 b93⟩, hHeld.2.trans (b93.mono hHeld.2.size)⟩)
  clear hK K
  (try simp only [Act.put, List.getElem_toArray, List.getElem_cons_succ, List.getElem_cons_zero, List.setIfInBounds_toArray, List.set_cons_zero, List.set_cons_succ])
  refine wpAnyH_ready (rs := [10]) (by kernel_rfl) (by simp) (AllReadyH.cons rfl (fun K hK => ?_) AllReadyH.nil)
  (first | (go_at_call 10; refine (LP.out.is2 _ _ _ (HS.out.s.kept hHeld.2) (HS.out.d.kept hHeld.2)).mono ?_; rintro e w94 ⟨rfl, b94⟩) | (go_simp; go_at_call 10; refine (LP.out.is2 _ _ _ (HS.out.s.kept hHeld.2) (HS.out.d.kept hHeld.2)).mono ?_; rintro e w94 ⟨rfl, b94⟩))
  (try (go_wp2_with fail))
  refine hK.out _ _ ?_ (fun hHeld => ?_)
  · ((try dsimp only); exact ⟨⟨keepSx hHeld.1.1 b94, keepSx hHeld.1.2 b94⟩, hHeld.2.trans (b94.mono hHeld.2.size)⟩)
  clear hK K
  (try simp only [Act.put, List.getElem_toArray, List.getElem_cons_succ, List.getElem_cons_zero, List.setIfInBounds_toArray, List.set_cons_zero, List.set_cons_succ])
  refine wpAnyH_take (i := 11) (v := ?_) rfl (by kernel_rfl) (by kernel_rfl) (by kernel_rfl) (fun _ _ _ h => h) (Or.inl ⟨by rfl, ?_⟩) (by assumption) ?_
  rotate_left
  · (intro w hSw; (try dsimp only at hSw); go_simp; (try with_reducible rfl))
  (try simp only [Act.put, List.getElem_toArray, List.getElem_cons_succ, List.getElem_cons_zero, List.setIfInBounds_toArray, List.set_cons_zero, List.set_cons_succ])
  refine wpAnyH_take (i := 12) (v := ?_) rfl (by kernel_rfl) (by kernel_rfl) (by kernel_rfl) (fun _ _ _ h => h) (Or.inl ⟨by rfl, ?_⟩) (by assumption) ?_
  rotate_left
  · (intro w hSw; (try dsimp only at hSw); go_simp; (try with_reducible rfl))
  (try simp only [Act.put, List.getElem_toArray, List.getElem_cons_succ, List.getElem_cons_zero, List.setIfInBounds_toArray, List.set_cons_zero, List.set_cons_succ])
  refine wpAnyH_done (by kernel_rfl) ?_ _
  refine NoPanic.normal ?_
  replace HB := Lib.hid (HB.out.trans (hHeld.2.mono HB.out.size))
  replace HS := Lib.hid (HS.out.kept hHeld.2)
  replace HX := Lib.hid (HX.out.kept hHeld.2)
  obtain ⟨w5, hw⟩ : ∃ w', w' = w94 := ⟨_, rfl⟩
  rw [← hw] at HS HX HB ⊢
  clear hw hHeld s91 e91 b91 b92 b93 b94
  obtain ⟨⟨c0, c1, c2, c3, c4, c5⟩, -⟩ := HS.out.b.cells
  go_wp2_with fail
  refine (LP.out.st1 _ _ _ HS.out.s HS.out.d).mono ?_
  rintro e w6 ⟨u2, g2, rfl, s2, e2, b6⟩
  replace HB := Lib.hid (HB.out.trans (b6.mono HB.out.size))
  replace HS := Lib.hid (HS.out.kept b6)
  replace HX := Lib.hid (HX.out.kept b6)
  clear c0 c1 c2 c3 c4 c5 b6
  obtain ⟨au2, cu2, rfl, -⟩ := id s2
  obtain ⟨ag2, cg2, rfl, -⟩ := id e2
  unfold srcV
  have HY := Lib.hid (BX.new s2 e2 (c := cc) (m := m) (at_ := A2) (t := T2))
  have hal := (Below.refl w6.heap.size w6).alloc (Nat.le_refl _) (.cells #[.int .i64 cc, (.slice au2 ll.length cu2), .int .i64 m, .int .i64 A2, (.slice ag2 F2.length cg2), .int .i64 T2] 29)
  replace HB := Lib.hid (HB.out.trans (hal.mono HB.out.size))
  replace HS := Lib.hid (HS.out.kept hal)
  replace HX := Lib.hid (HX.out.kept hal)
  clear hal s2 e2
  go_upto_region 8 with fail
  obtain ⟨TY, hT⟩ : ∃ T, T = w6.heap.size := ⟨_, rfl⟩
  obtain ⟨w7, hw⟩ : ∃ w', w' = w6.alloc (.cells #[.int .i64 cc, (.slice au2 ll.length cu2), .int .i64 m, .int .i64 A2, (.slice ag2 F2.length cg2), .int .i64 T2] 29) := ⟨_, rfl⟩
  rw [← hw] at HY HS HX HB ⊢
  rw [← hT] at HY ⊢
  clear hT hw
  obtain ⟨⟨c0, c1, c2, c3, c4, c5⟩, -⟩ := HS.out.b.cells
  go_wp2_with fail
  refine (LP.out.st2 _ _ _ HS.out.s HS.out.d).mono ?_
  rintro e w8 ⟨u3, g3, rfl, s3, e3, b8⟩
  replace HB := Lib.hid (HB.out.trans (b8.mono HB.out.size))
  replace HS := Lib.hid (HS.out.kept b8)
  replace HX := Lib.hid (HX.out.kept b8)
  replace HY := Lib.hid (HY.out.kept b8)
  clear c0 c1 c2 c3 c4 c5 b8
  obtain ⟨au3, cu3, rfl, -⟩ := id s3
  obtain ⟨ag3, cg3, rfl, -⟩ := id e3
  unfold srcV
  have HZ := Lib.hid (BX.new s3 e3 (c := cc) (m := m) (at_ := A2) (t := T2))
  have hal := (Below.refl w8.heap.size w8).alloc (Nat.le_refl _) (.cells #[.int .i64 cc, (.slice au3 ll.length cu3), .int .i64 m, .int .i64 A2, (.slice ag3 F2.length cg3), .int .i64 T2] 29)
  replace HB := Lib.hid (HB.out.trans (hal.mono HB.out.size))
  replace HS := Lib.hid (HS.out.kept hal)
  replace HX := Lib.hid (HX.out.kept hal)
  replace HY := Lib.hid (HY.out.kept hal)
  clear hal s3 e3
  go_upto_region 9 with fail
  obtain ⟨TZ, hT⟩ : ∃ T, T = w8.heap.size := ⟨_, rfl⟩
  obtain ⟨w9, hw⟩ : ∃ w', w' = w8.alloc (.cells #[.int .i64 cc, (.slice au3 ll.length cu3), .int .i64 m, .int .i64 A2, (.slice ag3 F2.length cg3), .int .i64 T2] 29) := ⟨_, rfl⟩
  rw [← hw] at HZ HS HX HY HB ⊢
  rw [← hT] at HZ ⊢
  clear hT hw
  obtain ⟨⟨c0, c1, c2, c3, c4, c5⟩, -⟩ := HS.out.b.cells
  go_wp2_with fail
  refine (LP.out.ca1 _ _ _ HS.out.s HS.out.d).mono ?_
  rintro e w10 ⟨rfl, bw10⟩
  replace HB := Lib.hid (HB.out.trans (bw10.mono HB.out.size))
  replace HS := Lib.hid (HS.out.kept bw10)
  replace HX := Lib.hid (HX.out.kept bw10)
  replace HY := Lib.hid (HY.out.kept bw10)
  replace HZ := Lib.hid (HZ.out.kept bw10)
  clear c0 c1 c2 c3 c4 c5 bw10
  have HD : Hid (DX (w10.alloc (.cells #[.int .i64 d1, .int .i64 d2] 38)) w10.heap.size d1 d2) := Lib.hid (zero2 w10 38 (.int .i64 d1) (.int .i64 d2))
  have hal := (Below.refl w10.heap.size w10).alloc (Nat.le_refl _) (.cells #[.int .i64 d1, .int .i64 d2] 38)
  replace HB := Lib.hid (HB.out.trans (hal.mono HB.out.size))
  replace HS := Lib.hid (HS.out.kept hal)
  replace HX := Lib.hid (HX.out.kept hal)
  replace HY := Lib.hid (HY.out.kept hal)
  replace HZ := Lib.hid (HZ.out.kept hal)
  clear hal
  go_upto_region 10 with fail
  obtain ⟨TD, hT⟩ : ∃ T, T = w10.heap.size := ⟨_, rfl⟩
  obtain ⟨w11, hw⟩ : ∃ w', w' = w10.alloc (.cells #[.int .i64 d1, .int .i64 d2] 38) := ⟨_, rfl⟩
  rw [← hw] at HD HS HX HY HZ HB ⊢
  rw [← hT] at HD ⊢
  clear hT hw
  obtain ⟨⟨c0, c1, c2, c3, c4, c5⟩, -⟩ := HS.out.b.cells
  go_wp2_with fail
  refine (LP.out.ca2 _ _ _ HS.out.s HS.out.d).mono ?_
  rintro e w12 ⟨rfl, bw12⟩
  replace HB := Lib.hid (HB.out.trans (bw12.mono HB.out.size))
  replace HS := Lib.hid (HS.out.kept bw12)
  replace HX := Lib.hid (HX.out.kept bw12)
  replace HY := Lib.hid (HY.out.kept bw12)
  replace HZ := Lib.hid (HZ.out.kept bw12)
  replace HD := Lib.hid (HD.out.kept bw12)
  clear c0 c1 c2 c3 c4 c5 bw12
  have HE : Hid (DX (w12.alloc (.cells #[.int .i64 d1, .int .i64 d2] 38)) w12.heap.size d1 d2) := Lib.hid (zero2 w12 38 (.int .i64 d1) (.int .i64 d2))
  have hal := (Below.refl w12.heap.size w12).alloc (Nat.le_refl _) (.cells #[.int .i64 d1, .int .i64 d2] 38)
  replace HB := Lib.hid (HB.out.trans (hal.mono HB.out.size))
  replace HS := Lib.hid (HS.out.kept hal)
  replace HX := Lib.hid (HX.out.kept hal)
  replace HY := Lib.hid (HY.out.kept hal)
  replace HZ := Lib.hid (HZ.out.kept hal)
  replace HD := Lib.hid (HD.out.kept hal)
  clear hal
  go_upto_region 11 with fail
  obtain ⟨TE, hT⟩ : ∃ T, T = w12.heap.size := ⟨_, rfl⟩
  obtain ⟨w13, hw⟩ : ∃ w', w' = w12.alloc (.cells #[.int .i64 d1, .int .i64 d2] 38) := ⟨_, rfl⟩
  rw [← hw] at HE HS HX HY HZ HD HB ⊢
  rw [← hT] at HE ⊢
  clear hT hw
  have hnb : (nb != nb) = false := bne_self_eq_false _
  obtain ⟨⟨c0, c1, c2, c3, c4, c5⟩, -⟩ := HY.out.b.cells
  obtain ⟨⟨k0, k1, k2, k3, k4, k5⟩, -⟩ := HZ.out.b.cells
  go_wp2_with fail
  refine (LP.out.eq2 _ _ _ _ _ HY.out.s HZ.out.s HY.out.d HZ.out.d).mono ?_
  rintro e w14 ⟨rfl, b14⟩
  replace HB := Lib.hid (HB.out.trans (b14.mono HB.out.size))
  replace HS := Lib.hid (HS.out.kept b14)
  replace HX := Lib.hid (HX.out.kept b14)
  replace HD := Lib.hid (HD.out.kept b14)
  replace HE := Lib.hid (HE.out.kept b14)
  clear c0 c1 c2 c3 c4 c5 k0 k1 k2 k3 k4 k5 b14 HY HZ
  obtain ⟨x0, x1⟩ := HD.out
  obtain ⟨y0, y1⟩ := HE.out
  have hq := fun w' => eq_dep d1 d2 d1 d2 w'
  rw [show (d1 == d1 && d2 == d2) = true from by simp] at hq
  go_upto_region 13 with fail
  clear x0 x1 y0 y1 hq hnb HD HE
  obtain ⟨⟨c0, c1, c2, c3, c4, c5⟩, -⟩ := HS.out.b.cells
  go_wp2_with fail
  refine (LP.out.is2 _ _ _ HS.out.s HS.out.d).mono ?_
  rintro e w15 ⟨rfl, b15⟩
  replace HB := Lib.hid (HB.out.trans (b15.mono HB.out.size))
  replace HS := Lib.hid (HS.out.kept b15)
  replace HX := Lib.hid (HX.out.kept b15)
  clear c0 c1 c2 c3 c4 c5 b15
  go_upto_if 88 with fail
  go_cut [] (fun wx => Hid (Below w.heap.size w wx))
  case first =>
    cases p with
    | false =>
      clear HS HX
      go_wp2_with fail
      go_meet
      case rel => exact HB
    | true =>
      have SPX := Lib.hid (LP.out.sp rfl)
      obtain ⟨⟨c0, c1, c2, c3, c4, c5⟩, -⟩ := HS.out.b.cells
      go_wp2_with fail
      refine (LP.out.md _ _ HS.out.s).mono ?_
      rintro e w16 ⟨vm, rfl, om, b16⟩
      replace HB := Lib.hid (HB.out.trans (b16.mono HB.out.size))
      replace HS := Lib.hid (HS.out.kept b16)
      replace HX := Lib.hid (HX.out.kept b16)
      have HM := Lib.hid om.read
      obtain ⟨am, cm, rfl, -⟩ := om.read
      clear c0 c1 c2 c3 c4 c5 b16 om
      go_wp2_with fail
      go_loopw [15] (fun iv wr => ∃ i : Nat, i ≤ F1.length ∧ iv = .int .i64 (i : Int) ∧ Hid (BX wr T0 cc m at_ t (.slice au ll.length cu) (.slice ag F.length cg) ll F) ∧ Hid (BX wr TX cc m A1 T1 (.slice au1 ll.length cu1) (.slice ag1 F1.length cg1) ll F1) ∧ Hid (ReadD wr (.slice am M.length cm) M) ∧ Hid (Below w.heap.size w wr)) (fun iv _ => F1.length - (intOf iv).toNat)
      case atStart => exact ⟨0, by omega, rfl, HS, HX, HM, HB⟩
      case round =>
        clear HS HX HM HB
        obtain ⟨i, hi, rfl, HS, HX, HM, HB⟩ := hrel
        obtain ⟨w20, hw⟩ : ∃ w', w' = wr := ⟨_, rfl⟩
        rw [← hw] at HS HX HM HB ⊢
        clear hw
        obtain ⟨⟨k0, k1, k2, k3, k4, k5⟩, -⟩ := HX.out.b.cells
        have z0 : (0 : Int) ≤ (i : Int) := by omega
        by_cases hlt : i < F1.length
        · obtain ⟨bm, om, rfl, h0, h1⟩ := readD_at HX.out.d hlt
          obtain ⟨⟨a0, a1⟩, hab⟩ : ∃ z, z = F1.getD i (0, 0) := ⟨_, rfl⟩
          have HI := Lib.hid (SPX.out.has i hlt a0 a1 hab.symm)
          rw [← hab] at h0 h1
          simp only at h0 h1
          have z1 : (i : Int) < (F1.length : Int) := by omega
          clear hab
          go_wp2_with fail
          refine (HI.out _ _ HM.out).mono ?_
          rintro e w21 ⟨rfl, b21⟩
          replace HB := Lib.hid (HB.out.trans (b21.mono HB.out.size))
          replace HS := Lib.hid (HS.out.kept b21)
          replace HX := Lib.hid (HX.out.kept b21)
          replace HM := Lib.hid (HM.out.kept b21)
          clear b21 h0 h1 HI k0 k1 k2 k3 k4 k5
          go_wp2_with fail
          go_roundw
          case rel => exact ⟨i + 1, by omega, by go_num, HS, HX, HM, HB⟩
          case measure => simp [intOf]; omega
        · obtain rfl : i = F1.length := by omega
          go_wp2_with fail
          refine (SPX.out.ra _ _ _ HX.out.s HX.out.d).mono ?_
          rintro e w22 ⟨u2, g2, rfl, s2, e2, b22⟩
          replace HB := Lib.hid (HB.out.trans (b22.mono HB.out.size))
          replace HS := Lib.hid (HS.out.kept b22)
          replace HX := Lib.hid (HX.out.kept b22)
          replace HM := Lib.hid (HM.out.kept b22)
          clear k0 k1 k2 k3 k4 k5 b22 z0 hi hlt
          obtain ⟨au2, cu2, rfl, -⟩ := id s2
          obtain ⟨ag2, cg2, rfl, -⟩ := id e2
          unfold srcV
          have HA := Lib.hid (BX.new s2 e2 (c := cc) (m := m) (at_ := A3) (t := T3))
          have hal := (Below.refl w22.heap.size w22).alloc (Nat.le_refl _) (.cells #[.int .i64 cc, (.slice au2 ll.length cu2), .int .i64 m, .int .i64 A3, (.slice ag2 F3.length cg2), .int .i64 T3] 29)
          replace HB := Lib.hid (HB.out.trans (hal.mono HB.out.size))
          replace HS := Lib.hid (HS.out.kept hal)
          replace HX := Lib.hid (HX.out.kept hal)
          replace HM := Lib.hid (HM.out.kept hal)
          clear hal s2 e2
          go_upto_region 21 with fail
          obtain ⟨TA, hT⟩ : ∃ T, T = w22.heap.size := ⟨_, rfl⟩
          obtain ⟨w23, hw⟩ : ∃ w', w' = w22.alloc (.cells #[.int .i64 cc, (.slice au2 ll.length cu2), .int .i64 m, .int .i64 A3, (.slice ag2 F3.length cg2), .int .i64 T3] 29) := ⟨_, rfl⟩
          rw [← hw] at HA HS HX HM HB ⊢
          rw [← hT] at HA ⊢
          clear hT hw
          obtain ⟨⟨c0, c1, c2, c3, c4, c5⟩, -⟩ := HS.out.b.cells
          go_wp2_with fail
          refine (SPX.out.rb _ _ _ HS.out.s HS.out.d).mono ?_
          rintro e w24 ⟨u3, g3, rfl, s3, e3, b24⟩
          replace HB := Lib.hid (HB.out.trans (b24.mono HB.out.size))
          replace HS := Lib.hid (HS.out.kept b24)
          replace HX := Lib.hid (HX.out.kept b24)
          replace HM := Lib.hid (HM.out.kept b24)
          replace HA := Lib.hid (HA.out.kept b24)
          clear c0 c1 c2 c3 c4 c5 b24
          obtain ⟨au3, cu3, rfl, -⟩ := id s3
          obtain ⟨ag3, cg3, rfl, -⟩ := id e3
          unfold srcV
          have HC := Lib.hid (BX.new s3 e3 (c := cc) (m := m) (at_ := A3) (t := T3))
          have hal := (Below.refl w24.heap.size w24).alloc (Nat.le_refl _) (.cells #[.int .i64 cc, (.slice au3 ll.length cu3), .int .i64 m, .int .i64 A3, (.slice ag3 F3.length cg3), .int .i64 T3] 29)
          replace HB := Lib.hid (HB.out.trans (hal.mono HB.out.size))
          replace HS := Lib.hid (HS.out.kept hal)
          replace HX := Lib.hid (HX.out.kept hal)
          replace HM := Lib.hid (HM.out.kept hal)
          replace HA := Lib.hid (HA.out.kept hal)
          clear hal s3 e3
          go_upto_region 22 with fail
          obtain ⟨TC, hT⟩ : ∃ T, T = w24.heap.size := ⟨_, rfl⟩
          obtain ⟨w25, hw⟩ : ∃ w', w' = w24.alloc (.cells #[.int .i64 cc, (.slice au3 ll.length cu3), .int .i64 m, .int .i64 A3, (.slice ag3 F3.length cg3), .int .i64 T3] 29) := ⟨_, rfl⟩
          rw [← hw] at HC HS HX HM HA HB ⊢
          rw [← hT] at HC ⊢
          clear hT hw
          obtain ⟨⟨c0, c1, c2, c3, c4, c5⟩, -⟩ := HA.out.b.cells
          obtain ⟨⟨k0, k1, k2, k3, k4, k5⟩, -⟩ := HC.out.b.cells
          go_wp2_with fail
          refine (SPX.out.eq3 _ _ _ _ _ HA.out.s HC.out.s HA.out.d HC.out.d).mono ?_
          rintro e w26 ⟨rfl, b26⟩
          replace HB := Lib.hid (HB.out.trans (b26.mono HB.out.size))
          replace HS := Lib.hid (HS.out.kept b26)
          replace HX := Lib.hid (HX.out.kept b26)
          replace HM := Lib.hid (HM.out.kept b26)
          replace HA := Lib.hid (HA.out.kept b26)
          clear c0 c1 c2 c3 c4 c5 k0 k1 k2 k3 k4 k5 b26 HC
          obtain ⟨⟨c0, c1, c2, c3, c4, c5⟩, -⟩ := HA.out.b.cells
          go_wp2_with fail
          refine (SPX.out.ed _ _ _ HA.out.s HA.out.d).mono ?_
          rintro e w27 ⟨rfl, b27⟩
          replace HB := Lib.hid (HB.out.trans (b27.mono HB.out.size))
          replace HS := Lib.hid (HS.out.kept b27)
          replace HX := Lib.hid (HX.out.kept b27)
          replace HM := Lib.hid (HM.out.kept b27)
          replace HA := Lib.hid (HA.out.kept b27)
          clear c0 c1 c2 c3 c4 c5 b27
          obtain ⟨⟨c0, c1, c2, c3, c4, c5⟩, -⟩ := HA.out.b.cells
          go_wp2_with fail
          refine (SPX.out.ss _ _ _ HA.out.d HM.out).mono ?_
          rintro e w28 ⟨rfl, b28⟩
          replace HB := Lib.hid (HB.out.trans (b28.mono HB.out.size))
          replace HS := Lib.hid (HS.out.kept b28)
          replace HX := Lib.hid (HX.out.kept b28)
          clear c0 c1 c2 c3 c4 c5 b28 HA HM
          obtain ⟨⟨c0, c1, c2, c3, c4, c5⟩, -⟩ := HX.out.b.cells
          go_wp2_with fail
          refine (SPX.out.is3 _ _ _ HX.out.s HX.out.d).mono ?_
          rintro e w29 ⟨rfl, b29⟩
          replace HB := Lib.hid (HB.out.trans (b29.mono HB.out.size))
          replace HS := Lib.hid (HS.out.kept b29)
          replace HX := Lib.hid (HX.out.kept b29)
          clear c0 c1 c2 c3 c4 c5 b29
          obtain ⟨⟨c0, c1, c2, c3, c4, c5⟩, -⟩ := HX.out.b.cells
          obtain ⟨⟨k0, k1, k2, k3, k4, k5⟩, -⟩ := HS.out.b.cells
          by_cases hb0 : 0 ≤ bud
          · have hbd := SPX.out.bd hb0
            go_wp2_with fail
            go_meet
            case rel => exact HB
          · skip
            go_wp2_with fail
            go_meet
            case rel => exact HB
  case rest =>
    clear HB HS HX
    have HB := hcut
    clear hcut
    clear LP HCL
    go_wp2_with fail
    refine (HD2.out _ HB.out).mono ?_
    rintro e w50 ⟨c8, m8, a8, t8, u8, g8, ll8, F8, rfl, hll8, hlr8, hF8, s8, e8, b50⟩
    replace HB := Lib.hid (HB.out.trans (b50.mono HB.out.size))
    obtain ⟨bE, k1, k2⟩ := ed_on (c := c8) (m := m8) (at_ := a8) (t := t8) (ll := ll8) (F := F8) (by omega) (few hlr8) hF8
    have K1 := Lib.hid k1
    have K2 := Lib.hid k2
    clear k1 k2 b50 hll8 hlr8 hF8 HD2
    obtain ⟨au8, cu8, rfl, -⟩ := id s8
    obtain ⟨ag8, cg8, rfl, -⟩ := id e8
    unfold srcV
    have HU := Lib.hid (BX.new s8 e8 (c := c8) (m := m8) (at_ := a8) (t := t8))
    have hal := (Below.refl w50.heap.size w50).alloc (Nat.le_refl _) (.cells #[.int .i64 c8, (.slice au8 ll8.length cu8), .int .i64 m8, .int .i64 a8, (.slice ag8 F8.length cg8), .int .i64 t8] 29)
    replace HB := Lib.hid (HB.out.trans (hal.mono HB.out.size))
    clear hal s8 e8
    go_upto_region 25 with fail
    obtain ⟨T18, hT⟩ : ∃ T, T = w50.heap.size := ⟨_, rfl⟩
    obtain ⟨w51, hw⟩ : ∃ w', w' = w50.alloc (.cells #[.int .i64 c8, (.slice au8 ll8.length cu8), .int .i64 m8, .int .i64 a8, (.slice ag8 F8.length cg8), .int .i64 t8] 29) := ⟨_, rfl⟩
    rw [← hw] at HU  HB ⊢
    rw [← hT] at HU ⊢
    clear hT hw
    go_wp2_with fail
    refine (HD3.out _ HB.out).mono ?_
    rintro e w52 ⟨c9, u9, ll9, m9, q90, q91, rfl, hll9, hlr9, s9, b52⟩
    replace HB := Lib.hid (HB.out.trans (b52.mono HB.out.size))
    replace HU := Lib.hid (HU.out.kept b52)
    obtain ⟨c7, m7, ll7, b7, k3, k4, k5⟩ := ns_on (c := c9) (m := m9) (ll := ll9) (by omega) (few hlr9)
    have K3 := Lib.hid k3
    have K4 := Lib.hid k4
    have K5 := Lib.hid k5
    clear k3 k4 k5 b52 hll9 hlr9 q90 q91 HD3
    obtain ⟨au9, cu9, rfl, -⟩ := id s9
    have HV := Lib.hid (TBX.new (c := c9) s9)
    have hal := (Below.refl w52.heap.size w52).alloc (Nat.le_refl _) (.cells #[.int .i64 c9, .slice au9 ll9.length cu9] 26)
    replace HB := Lib.hid (HB.out.trans (hal.mono HB.out.size))
    replace HU := Lib.hid (HU.out.kept hal)
    clear hal s9
    go_upto_region 26 with fail
    obtain ⟨T19, hT⟩ : ∃ T, T = w52.heap.size := ⟨_, rfl⟩
    obtain ⟨w53, hw⟩ : ∃ w', w' = w52.alloc (.cells #[.int .i64 c9, .slice au9 ll9.length cu9] 26) := ⟨_, rfl⟩
    rw [← hw] at HV HU HB ⊢
    rw [← hT] at HV ⊢
    clear hT hw
    obtain ⟨x0, x1⟩ := HV.out.1
    go_wp2_with fail
    refine (K3.out _ _ HV.out.2).mono ?_
    rintro e w54 ⟨u6, g6, rfl, s6, e6, b54⟩
    replace HB := Lib.hid (HB.out.trans (b54.mono HB.out.size))
    replace HU := Lib.hid (HU.out.kept b54)
    replace HV := Lib.hid (HV.out.kept b54)
    clear b54 x0 x1 K3
    obtain ⟨au6, cu6, rfl, -⟩ := id s6
    obtain ⟨ag6, cg6, rfl, -⟩ := id e6
    replace e6 : ReadD w54 (.slice ag6 0 cg6) [] := e6
    unfold srcV
    have HY := Lib.hid (BX.new s6 e6 (c := c7) (m := m7) (at_ := 0) (t := 0))
    have hal := (Below.refl w54.heap.size w54).alloc (Nat.le_refl _) (.cells #[.int .i64 c7, (.slice au6 ll7.length cu6), .int .i64 m7, .int .i64 0, (.slice ag6 0 cg6), .int .i64 0] 29)
    replace HB := Lib.hid (HB.out.trans (hal.mono HB.out.size))
    replace HU := Lib.hid (HU.out.kept hal)
    replace HV := Lib.hid (HV.out.kept hal)
    clear hal s6 e6
    go_upto_region 27 with fail
    obtain ⟨T21, hT⟩ : ∃ T, T = w54.heap.size := ⟨_, rfl⟩
    obtain ⟨w55, hw⟩ : ∃ w', w' = w54.alloc (.cells #[.int .i64 c7, (.slice au6 ll7.length cu6), .int .i64 m7, .int .i64 0, (.slice ag6 0 cg6), .int .i64 0] 29) := ⟨_, rfl⟩
    rw [← hw] at HY HU HV HB ⊢
    rw [← hT] at HY ⊢
    clear hT hw
    obtain ⟨x0, x1⟩ := HV.out.1
    go_wp2_with fail
    refine (K4.out _ _ HV.out.2).mono ?_
    rintro e w56 ⟨u5, g5, rfl, s5, e5, b56⟩
    replace HB := Lib.hid (HB.out.trans (b56.mono HB.out.size))
    replace HU := Lib.hid (HU.out.kept b56)
    replace HY := Lib.hid (HY.out.kept b56)
    clear b56 x0 x1 K4 HV
    obtain ⟨au5, cu5, rfl, -⟩ := id s5
    obtain ⟨ag5, cg5, rfl, -⟩ := id e5
    replace e5 : ReadD w56 (.slice ag5 0 cg5) [] := e5
    unfold srcV
    have HZ := Lib.hid (BX.new s5 e5 (c := c7) (m := m7) (at_ := 0) (t := 0))
    have hal := (Below.refl w56.heap.size w56).alloc (Nat.le_refl _) (.cells #[.int .i64 c7, (.slice au5 ll7.length cu5), .int .i64 m7, .int .i64 0, (.slice ag5 0 cg5), .int .i64 0] 29)
    replace HB := Lib.hid (HB.out.trans (hal.mono HB.out.size))
    replace HU := Lib.hid (HU.out.kept hal)
    replace HY := Lib.hid (HY.out.kept hal)
    clear hal s5 e5
    go_upto_region 28 with fail
    obtain ⟨T23, hT⟩ : ∃ T, T = w56.heap.size := ⟨_, rfl⟩
    obtain ⟨w57, hw⟩ : ∃ w', w' = w56.alloc (.cells #[.int .i64 c7, (.slice au5 ll7.length cu5), .int .i64 m7, .int .i64 0, (.slice ag5 0 cg5), .int .i64 0] 29) := ⟨_, rfl⟩
    rw [← hw] at HZ HU HY HB ⊢
    rw [← hT] at HZ ⊢
    clear hT hw
    refine wp_region_noPanic ?_
    refine wp_region_held_drew (S := (fun w' => (((w'.cell? ⟨T18, 0, none⟩ = some (.int .i64 c8) ∧ w'.cell? ⟨T18, 1, none⟩ = some (.slice au8 ll8.length cu8) ∧ w'.cell? ⟨T18, 2, none⟩ = some (.int .i64 m8) ∧ w'.cell? ⟨T18, 3, none⟩ = some (.int .i64 a8) ∧ w'.cell? ⟨T18, 4, none⟩ = some (.slice ag8 F8.length cg8) ∧ w'.cell? ⟨T18, 5, none⟩ = some (.int .i64 t8)) ∧ (w'.cell? ⟨T21, 0, none⟩ = some (.int .i64 c7) ∧ w'.cell? ⟨T21, 1, none⟩ = some (.slice au6 ll7.length cu6) ∧ w'.cell? ⟨T21, 2, none⟩ = some (.int .i64 m7) ∧ w'.cell? ⟨T21, 3, none⟩ = some (.int .i64 0) ∧ w'.cell? ⟨T21, 4, none⟩ = some (.slice ag6 0 cg6) ∧ w'.cell? ⟨T21, 5, none⟩ = some (.int .i64 0))) ∧ (w'.cell? ⟨T23, 0, none⟩ = some (.int .i64 c7) ∧ w'.cell? ⟨T23, 1, none⟩ = some (.slice au5 ll7.length cu5) ∧ w'.cell? ⟨T23, 2, none⟩ = some (.int .i64 m7) ∧ w'.cell? ⟨T23, 3, none⟩ = some (.int .i64 0) ∧ w'.cell? ⟨T23, 4, none⟩ = some (.slice ag5 0 cg5) ∧ w'.cell? ⟨T23, 5, none⟩ = some (.int .i64 0))) ∧ Below w57.heap.size w57 w')) (by kernel_rfl) ?_ (fun hHeld => ?_)
    · ((try dsimp only); exact ⟨⟨⟨HU.out.b.cells.1, HY.out.b.cells.1⟩, HZ.out.b.cells.1⟩, (Below.refl _ _).drew⟩)
    refine wpAnyH_take (i := 0) (v := ?_) rfl (by kernel_rfl) (by kernel_rfl) (by kernel_rfl) (fun _ _ _ h => h) (Or.inl ⟨by rfl, ?_⟩) (by assumption) ?_
    rotate_left
    · (intro w hSw; (try dsimp only at hSw); go_simp; (try with_reducible rfl))
    (try simp only [Act.put, List.getElem_toArray, List.getElem_cons_zero, List.setIfInBounds_toArray, List.set_cons_zero, List.set_cons_succ])
    refine wpAnyH_take (i := 2) (v := ?_) rfl (by kernel_rfl) (by kernel_rfl) (by kernel_rfl) (fun _ _ _ h => h) (Or.inl ⟨by rfl, ?_⟩) (by assumption) ?_
    rotate_left
    · (intro w hSw; (try dsimp only at hSw); go_simp; (try with_reducible rfl))
    (try simp only [Act.put, List.getElem_toArray, List.getElem_cons_succ, List.getElem_cons_zero, List.setIfInBounds_toArray, List.set_cons_zero, List.set_cons_succ])
    refine wpAnyH_ready (rs := [1]) (by kernel_rfl) (by simp) (AllReadyH.cons rfl (fun K hK => ?_) AllReadyH.nil)
    (first | (go_at_call 17; refine (K1.out _ _ _ (HU.out.s.kept hHeld.2) (HU.out.d.kept hHeld.2)).mono ?_; rintro e w91 ⟨rfl, b91⟩) | (go_simp; go_at_call 17; refine (K1.out _ _ _ (HU.out.s.kept hHeld.2) (HU.out.d.kept hHeld.2)).mono ?_; rintro e w91 ⟨rfl, b91⟩))
    (try (go_wp2_with fail))
    refine hK.out _ _ ?_ (fun hHeld => ?_)
    · ((try dsimp only); exact ⟨⟨⟨keepSx hHeld.1.1.1 b91, keepSx hHeld.1.1.2 b91⟩, keepSx hHeld.1.2 b91⟩, hHeld.2.trans (b91.mono hHeld.2.size)⟩)
    clear hK K
    (try simp only [Act.put, List.getElem_toArray, List.getElem_cons_succ, List.getElem_cons_zero, List.setIfInBounds_toArray, List.set_cons_zero, List.set_cons_succ])
    refine wpAnyH_ready (rs := [3]) (by kernel_rfl) (by simp) (AllReadyH.cons rfl (fun K hK => ?_) AllReadyH.nil)
    (first | (go_at_call 23; refine (K2.out _ _ _ (HU.out.s.kept hHeld.2) (HU.out.d.kept hHeld.2)).mono ?_; rintro e w92 ⟨rfl, b92⟩) | (go_simp; go_at_call 23; refine (K2.out _ _ _ (HU.out.s.kept hHeld.2) (HU.out.d.kept hHeld.2)).mono ?_; rintro e w92 ⟨rfl, b92⟩))
    (try (go_wp2_with fail))
    refine hK.out _ _ ?_ (fun hHeld => ?_)
    · ((try dsimp only); exact ⟨⟨⟨keepSx hHeld.1.1.1 b92, keepSx hHeld.1.1.2 b92⟩, keepSx hHeld.1.2 b92⟩, hHeld.2.trans (b92.mono hHeld.2.size)⟩)
    clear hK K
    (try simp only [Act.put, List.getElem_toArray, List.getElem_cons_succ, List.getElem_cons_zero, List.setIfInBounds_toArray, List.set_cons_zero, List.set_cons_succ])
    refine wpAnyH_take (i := 4) (v := ?_) rfl (by kernel_rfl) (by kernel_rfl) (by kernel_rfl) (fun _ _ _ h => h) (Or.inl ⟨by rfl, ?_⟩) (by assumption) ?_
    rotate_left
    · (intro w hSw; (try dsimp only at hSw); go_simp; (try with_reducible rfl))
    (try simp only [Act.put, List.getElem_toArray, List.getElem_cons_succ, List.getElem_cons_zero, List.setIfInBounds_toArray, List.set_cons_zero, List.set_cons_succ])
    refine wpAnyH_take (i := 5) (v := ?_) rfl (by kernel_rfl) (by kernel_rfl) (by kernel_rfl) (fun _ _ _ h => h) (Or.inl ⟨by rfl, ?_⟩) (by assumption) ?_
    rotate_left
    · (intro w hSw; (try dsimp only at hSw); go_simp; (try with_reducible rfl))
    (try simp only [Act.put, List.getElem_toArray, List.getElem_cons_succ, List.getElem_cons_zero, List.setIfInBounds_toArray, List.set_cons_zero, List.set_cons_succ])
    refine wpAnyH_take (i := 6) (v := ?_) rfl (by kernel_rfl) (by kernel_rfl) (by kernel_rfl) (fun _ _ _ h => h) (Or.inl ⟨by rfl, ?_⟩) (by assumption) ?_
    rotate_left
    · (intro w hSw; (try dsimp only at hSw); go_simp; (try with_reducible rfl))
    (try simp only [Act.put, List.getElem_toArray, List.getElem_cons_succ, List.getElem_cons_zero, List.setIfInBounds_toArray, List.set_cons_zero, List.set_cons_succ])
    refine wpAnyH_take (i := 7) (v := ?_) rfl (by kernel_rfl) (by kernel_rfl) (by kernel_rfl) (fun _ _ _ h => h) (Or.inl ⟨by rfl, ?_⟩) (by assumption) ?_
    rotate_left
    · (intro w hSw; (try dsimp only at hSw); go_simp; (try with_reducible rfl))
    (try simp only [Act.put, List.getElem_toArray, List.getElem_cons_succ, List.getElem_cons_zero, List.setIfInBounds_toArray, List.set_cons_zero, List.set_cons_succ])
    refine wpAnyH_take (i := 8) (v := ?_) rfl (by kernel_rfl) (by kernel_rfl) (by kernel_rfl) (fun _ _ _ h => h) (Or.inl ⟨by rfl, ?_⟩) (by assumption) ?_
    rotate_left
    · (intro w hSw; (try dsimp only at hSw); go_simp; (try with_reducible rfl))
    (try simp only [Act.put, List.getElem_toArray, List.getElem_cons_succ, List.getElem_cons_zero, List.setIfInBounds_toArray, List.set_cons_zero, List.set_cons_succ])
    refine wpAnyH_take (i := 9) (v := ?_) rfl (by kernel_rfl) (by kernel_rfl) (by kernel_rfl) (fun _ _ _ h => h) (Or.inl ⟨by rfl, ?_⟩) (by assumption) ?_
    rotate_left
    · (intro w hSw; (try dsimp only at hSw); go_simp; (try with_reducible rfl))
    (try simp only [Act.put, List.getElem_toArray, List.getElem_cons_succ, List.getElem_cons_zero, List.setIfInBounds_toArray, List.set_cons_zero, List.set_cons_succ])
    refine wpAnyH_take (i := 10) (v := ?_) rfl (by kernel_rfl) (by kernel_rfl) (by kernel_rfl) (fun _ _ _ h => h) (Or.inl ⟨by rfl, ?_⟩) (by assumption) ?_
    rotate_left
    · (intro w hSw; (try dsimp only at hSw); go_simp; (try with_reducible rfl))
    (try simp only [Act.put, List.getElem_toArray, List.getElem_cons_succ, List.getElem_cons_zero, List.setIfInBounds_toArray, List.set_cons_zero, List.set_cons_succ])
    refine wpAnyH_take (i := 11) (v := ?_) rfl (by kernel_rfl) (by kernel_rfl) (by kernel_rfl) (fun _ _ _ h => h) (Or.inl ⟨by rfl, ?_⟩) (by assumption) ?_
    rotate_left
    · (intro w hSw; (try dsimp only at hSw); go_simp; (try with_reducible rfl))
    (try simp only [Act.put, List.getElem_toArray, List.getElem_cons_succ, List.getElem_cons_zero, List.setIfInBounds_toArray, List.set_cons_zero, List.set_cons_succ])
    refine wpAnyH_take (i := 12) (v := ?_) rfl (by kernel_rfl) (by kernel_rfl) (by kernel_rfl) (fun _ _ _ h => h) (Or.inl ⟨by rfl, ?_⟩) (by assumption) ?_
    rotate_left
    · (intro w hSw; (try dsimp only at hSw); go_simp; (try with_reducible rfl))
    (try simp only [Act.put, List.getElem_toArray, List.getElem_cons_succ, List.getElem_cons_zero, List.setIfInBounds_toArray, List.set_cons_zero, List.set_cons_succ])
    refine wpAnyH_ready (rs := [13]) (by kernel_rfl) (by simp) (AllReadyH.cons rfl (fun K hK => ?_) AllReadyH.nil)
    (first | (go_at_call 7; refine (K5.out _ _ _ _ _ (HY.out.s.kept hHeld.2) (HZ.out.s.kept hHeld.2) (HY.out.d.kept hHeld.2) (HZ.out.d.kept hHeld.2)).mono ?_; rintro e w93 ⟨rfl, b93⟩) | (go_simp; go_at_call 7; refine (K5.out _ _ _ _ _ (HY.out.s.kept hHeld.2) (HZ.out.s.kept hHeld.2) (HY.out.d.kept hHeld.2) (HZ.out.d.kept hHeld.2)).mono ?_; rintro e w93 ⟨rfl, b93⟩))
    (try (go_wp2_with fail))
    refine hK.out _ _ ?_ (fun hHeld => ?_)
    · ((try dsimp only); exact ⟨⟨⟨keepSx hHeld.1.1.1 b93, keepSx hHeld.1.1.2 b93⟩, keepSx hHeld.1.2 b93⟩, hHeld.2.trans (b93.mono hHeld.2.size)⟩)
    clear hK K
    (try simp only [Act.put, List.getElem_toArray, List.getElem_cons_succ, List.getElem_cons_zero, List.setIfInBounds_toArray, List.set_cons_zero, List.set_cons_succ])
    refine wpAnyH_take (i := 14) (v := ?_) rfl (by kernel_rfl) (by kernel_rfl) (by kernel_rfl) (fun _ _ _ h => h) (Or.inl ⟨by rfl, ?_⟩) (by assumption) ?_
    rotate_left
    · (intro w hSw; (try dsimp only at hSw); go_simp; (try with_reducible rfl))
    (try simp only [Act.put, List.getElem_toArray, List.getElem_cons_succ, List.getElem_cons_zero, List.setIfInBounds_toArray, List.set_cons_zero, List.set_cons_succ])
    refine wpAnyH_take (i := 15) (v := ?_) rfl (by kernel_rfl) (by kernel_rfl) (by kernel_rfl) (fun _ _ _ h => h) (Or.inl ⟨by rfl, ?_⟩) (by assumption) ?_
    rotate_left
    · (intro w hSw; (try dsimp only at hSw); go_simp; (try with_reducible rfl))
    (try simp only [Act.put, List.getElem_toArray, List.getElem_cons_succ, List.getElem_cons_zero, List.setIfInBounds_toArray, List.set_cons_zero, List.set_cons_succ])
    refine wpAnyH_done (by kernel_rfl) ?_ _
    refine NoPanic.normal ?_
    go_wp2_with fail
    go_ret
    exact ⟨rfl, HB.out.trans (hHeld.2.mono HB.out.size)⟩
end Go.Proofs.YtjfllfancgmalaaGreat
