/- Texts of this claim, merged: PrtB, PrtC, PrtE, MapI, PgA, PgB. Conditions: as stated. -/
import Derived.Test.YtnbjcelfdppkcaaGreatTc32
import Derived.Test.YtnbjcelfdppkcaaGreatTc11
import Derived.Test.YtnbjcelfdppkcaaGreatTc17
import Derived.Test.YtnbjcelfdppkcaaGreatTc29
import Derived.Maps.RangeWalk
namespace Go.Proofs.YtnbjcelfdppkcaaGreat
open Go.RowKit
open Go.Maps (Keyed)

theorem own_sliceP {w : World} {B : Nat} {v : Value} {l : List Int} (h : OwnI w B v l) : ∃ a c, v = .slice a l.length c := by
  rcases h.shape with ⟨rfl, e⟩ | ⟨g, cap, rfl, -⟩
  · exact ⟨none, 0, by rw [e]; rfl⟩
  · exact ⟨_, _, rfl⟩
/-- What is known of an entry that has come. -/
theorem PhA.come {w wr : World} {b n B : Nat} {D D' : DataW Value} {V : List Int → Value} {g : List Int → List Int} {left : Lit → Bool} (h : PhA D D' V g left) (h1 : MapR w b n D) (hgr : w.grownBy wr (some b)) {x : List Int} (hx : R5 x)
    (hO : OwnI w B (V x) (g x)) (hL : ∀ y, R5 y → left (klR y) = true → Maps.has D (klR y) = true) (hl : left (klR x) = true) {v : Value} (hat : ∀ zd, D'.atKey (klR x) zd = .held v) : v = V x ∧ OwnI wr B v (g x) := by
  obtain ⟨e1, e2⟩ := h.2 x hx
  rw [hl, hL x hx hl] at e1
  have e3 := e2 (by simpa using e1) (.held nilS)
  rw [hat] at e3
  cases e3
  exact ⟨rfl, OwnI.keptBy hO hgr (fun k hk => by cases hk; exact map_apart h1 hO)⟩

theorem iter_apart {w : World} {b r n : Nat} {D : DataW Value} {left : Lit → Bool} {cnt B m : Nat} {E : TypeId} {v : Value} {xs : List Value} (h : w.ranges Tryz.prog 77 tokS b r n D left cnt) (h' : w.ownsRow B E 1 v m xs) : some b ≠ v.ownBlock ∧ some r ≠ v.ownBlock := by
  obtain ⟨es, clock, since, seen, c0, hb, -, -, -, hr, -⟩ := h
  rcases h'.2 with ⟨rfl, _⟩ | ⟨g, cap, cur, rfl, hB, hgg, rest⟩
  · exact ⟨(fun e => by cases e), (fun e => by cases e)⟩
  · refine ⟨fun e => ?_, fun e => ?_⟩
    · cases e; rw [hb] at hgg; cases hgg
    · cases e; rw [hr] at hgg; cases hgg
theorem ownsRow_down {w : World} {base base' : Nat} {e : TypeId} {size : Nat} {v : Value} {n : Nat} {xs : List Value} (h : w.ownsRow base e size v n xs) (hb : base' ≤ base) : w.ownsRow base' e size v n xs := by
  refine ⟨h.1, ?_⟩
  rcases h.2 with h' | ⟨g, cap, cur, e1, hB, rest⟩
  · exact .inl h'
  · exact .inr ⟨g, cap, cur, e1, Nat.le_trans hb hB, rest⟩
/-- What partition leaves: the groups of at least two rows, in order. -/
def RetP (B : Nat) (g : List Int → List Int) (w : World) (e : Ending) (w' : World) : Prop :=
  ∃ (v : Value) (L rs : List (List Int)), e = .returned v ∧ OwnSS w' B w'.heap.size v L ∧ L.Perm (rs.map g) ∧ L.Pairwise (fun p q => lessR q p = false) ∧ rs.Nodup ∧ (∀ x ∈ rs, R5 x) ∧ (∀ x, R5 x → (x ∈ rs ↔ 2 ≤ (g x).length)) ∧ Below B w w'
theorem OwnSS.ofP {w : World} {B C : Nat} {v : Value} {P : List (Value × List Int)} (h1 : w.ownsRow B 29 1 v P.length (P.map (·.1))) (hC : ∀ g, v.ownBlock = some g → g < C)
    (h2 : ∀ p ∈ P, OwnI w B p.1 p.2 ∧ ∀ g, p.1.ownBlock = some g → g < C) (h3 : P.Pairwise (fun x y => ∀ g, x.1.ownBlock = some g → y.1.ownBlock ≠ some g)) : OwnSS w B C v (P.map (·.2)) := by
  have hg : ∀ i (h : i < P.length), (P.getD i (undef, [])) = P[i] := fun i h => by rw [List.getD_eq_getElem?_getD, List.getElem?_eq_getElem h]; rfl
  have hg2 : ∀ i (h : i < P.length), (P.map (·.2)).getD i [] = P[i].2 := fun i h => by rw [List.getD_eq_getElem?_getD, List.getElem?_eq_getElem (by simpa using h)]; simp
  refine ⟨fun i => (P.getD i (undef, [])).1, ?_, hC, fun i hi => ?_, fun i j hij hj g => ?_⟩
  · have e : (List.range (P.map (·.2)).length).map (fun i => (P.getD i (undef, [])).1) = P.map (·.1) := by
      apply List.ext_getElem
      · simp
      · intro i k1 k2
        simp only [List.length_map] at k2
        rw [List.getElem_map, List.getElem_range, List.getElem_map, hg i k2]
    rw [e, List.length_map]; exact h1
  · rw [List.length_map] at hi
    show OwnI w B (P.getD i (undef, [])).1 _ ∧ ∀ g, (P.getD i (undef, [])).1.ownBlock = some g → g < C
    rw [hg i hi, hg2 i hi]
    exact h2 _ (List.getElem_mem hi)
  · rw [List.length_map] at hj
    show (P.getD i (undef, [])).1.ownBlock = some g → (P.getD j (undef, [])).1.ownBlock ≠ some g
    rw [hg i (by omega), hg j hj]
    exact (List.pairwise_iff_getElem.1 h3) i j (by omega) hj hij g
/-- The classes in any order, the slices and the rows side by side. -/
def prs (V : List Int → Value) (g : List Int → List Int) (rs : List (List Int)) : List (Value × List Int) := rs.map fun r => (V r, g r)
theorem prs_fst (V : List Int → Value) (g : List Int → List Int) (rs : List (List Int)) : (prs V g rs).map (·.1) = rs.map V := by unfold prs; rw [List.map_map]; rfl
theorem prs_snd (V : List Int → Value) (g : List Int → List Int) (rs : List (List Int)) : (prs V g rs).map (·.2) = rs.map g := by unfold prs; rw [List.map_map]; rfl
theorem prs_apart {V : List Int → Value} {g : List Int → List Int} {rs : List (List Int)} (h5 : ∀ r r', R5 r → R5 r' → r ≠ r' → ∀ k, (V r).ownBlock = some k → (V r').ownBlock ≠ some k) (hn : rs.Nodup) (h : ∀ x ∈ rs, R5 x) :
    (prs V g rs).Pairwise (fun x y => ∀ g, x.1.ownBlock = some g → y.1.ownBlock ≠ some g) := by
  unfold prs
  rw [List.pairwise_map]
  exact hn.imp_of_mem fun {a b} ha hb hne => h5 a b (h a ha) (h b hb) hne
theorem part_end {w wr w' : World} {B b : Nat} {D' : DataW Value} {V : List Int → Value} {g : List Int → List Int} {rs : List (List Int)} {v : Value} {P' : List (Value × List Int)} {left : Lit → Bool} (hB : B ≤ w.heap.size) (h2 : B ≤ b)
    (h5 : ∀ r r', R5 r → R5 r' → r ≠ r' → ∀ k, (V r).ownBlock = some k → (V r').ownBlock ≠ some k)
    (hD : ∀ x, R5 x → Maps.has D' (klR x) = decide (2 ≤ (g x).length) ∧ (Maps.has D' (klR x) = true → ∀ zd, D'.atKey (klR x) zd = .held (V x))) (hPB : PhB D' left rs) (hl : ∀ kl, left kl = false) (hgr : w.grownBy wr (some b))
    (hp : P'.Perm (prs V g rs)) (ho : OrdV P') (hown : w'.ownsRow w.heap.size 29 1 v P'.length (P'.map (·.1))) (hP : ∀ p ∈ P', OwnI w' B p.1 p.2 ∧ (∀ k, p.1.ownBlock = some k → k < w.heap.size)) (hb : Below w.heap.size wr w') : RetP B g w (.returned v) w' := by
  have hw' := hgr.size
  have hw2 := hb.size
  have hbb := hPB.2.1
  refine ⟨v, P'.map (·.2), rs, rfl, OwnSS.ofP (ownsRow_down hown hB) (fun k hk => (World.ownsRow.lt hown k hk).2) (fun p hpm => ⟨(hP p hpm).1, fun k hk => by have := (hP p hpm).2 k hk; omega⟩) ?_, ?_, ?_, hPB.1, fun x hx => (hbb x hx).1, fun x hx => ?_, ?_⟩
  · exact (hp.pairwise_iff (fun {x y} h k hx hy => h k hy hx)).2 (prs_apart h5 hPB.1 (fun x hx => (hbb x hx).1))
  · rw [← prs_snd V g rs]; exact hp.map _
  · rw [List.pairwise_map]; exact ho
  · rw [hPB.stop hl x hx, (hD x hx).1, decide_eq_true_eq]
  · exact ((Below.refl B w).grown hgr hB (fun j hj => by cases hj; exact h2)).trans (hb.mono hB)
set_option maxRecDepth 20000 in
set_option maxHeartbeats 3200000 in
theorem partition_any (B b n : Nat) (g : List Int → List Int) (w : World) (h : Grp w B b n g) (hn : n ≤ 1048576) (hl : ∀ r, (g r).length ≤ 1048576) (hB : B ≤ w.heap.size) :
    Calls Tryz.prog 57 #[.map (some b)] w (RetP B g w) := by
  obtain ⟨D, V, h1, h2, h3, h4, h5⟩ := h
  have hown : MapS w b n D := toS h1 fun r hr v hv => by
    have e := (h3 r hr).1
    rw [hv] at e; cases e
    obtain ⟨a, c, e⟩ := own_sliceP (h3 r hr).2
    exact ⟨a, _, c, e⟩
  have hp0 := PhA.start (g := g) h1 (fun r hr => (h3 r hr).1)
  have hbw := World.ownsMap.lt h1
  obtain ⟨j0, hj, hy0, hy1, hy2⟩ := info_parts infoSj
  have HJ : Hid (_ ∧ _ ∧ _ ∧ _) := Lib.hid ⟨hj, hy0, hy1, hy2⟩
  clear hj hy0 hy1 hy2
  have H1 := Lib.hid h1
  have H3 := Lib.hid h3
  have H4 := Lib.hid h4
  have H5 := Lib.hid h5
  have HL := Lib.hid hl
  clear h1 h3 h4 h5 hl
  go_enter Tryz.func57, Tryz.ntmps57
  go_wp2_with (first
    | (at_range; refine wpList_range_own _ rfl _ 73 rfl 77 29 keyR Tryz.underlying73 tokS b n D rfl hown ?_; intro w0 hrg0 hg0 hs0))
  go_frame
  go_loopw [] (fun wr => ∃ left cnt D', wr.ranges Tryz.prog 77 tokS b w.heap.size n D' left cnt ∧ Hid (PhA D D' V g left) ∧ w.grownBy wr (some b) ∧ Hid (∀ y, R5 y → left (klR y) = true → Maps.has D (klR y) = true)) (fun wr => wr.rangeLeft b w.heap.size)
  case atStart => exact ⟨_, _, D, hrg0, Lib.hid hp0, hg0.but _, Lib.hid (fun y _ h => h)⟩
  case round =>
    clear hrg0 hg0 hs0 hp0 hown
    obtain ⟨left, cnt, D', hrg, HP, hgr, HLE⟩ := hrel
    obtain ⟨w9, hw9⟩ : ∃ w', w' = wr := ⟨_, rfl⟩
    rw [← hw9] at hrg hgr ⊢
    clear hw9
    have hr9 := hrg.lt
    go_wp2_with (first | (at_next; refine mapS_next _ rfl _ rfl b w.heap.size n D' left cnt rfl hrg ?_ ?_))
    · intro hc0 hl0
      have HD := Lib.hid (HP.out.stop hl0 H4.out)
      have hown2 := hrg.owns
      have HGR := Lib.hid hgr
      have hsz2 := hgr.size
      have hsd := hown2.size_le
      clear hrg hgr HP HLE hl0 hc0
      go_wp2_with (first
        | (at_len; refine wpList_len_own _ rfl _ 73 rfl 77 29 Tryz.underlying73 tokS b n D' rfl hown2 ?_)
        | (at_make; refine wpList_make_own _ rfl _ _ 24 rfl w.heap.size 29 j0 (.slice none 0 0) 1 Tryz.underlying24 HJ.out.1 HJ.out.2.1 HJ.out.2.2.1 .i64 .i64 _ (Maps.size D') rfl rfl rfl (by rw [HJ.out.2.2.2]; omega) (by unfold maxLen; omega) hsz2 ?_
           intro w3 hown3 hgr3
           have hown4 := hown2.kept hgr3 (by simp))
        | (at_range; refine wpList_range_own _ rfl _ 73 rfl 77 29 keyR Tryz.underlying73 tokS b n D' rfl hown4 ?_; intro w4 hrg4 hg4 hs4))
      go_frame
      have HGR4 := Lib.hid ((HGR.out.andThen hgr3 (fun j hj => by cases hj)).andThen hg4 (fun j hj => by cases hj))
      have HO4 := Lib.hid (World.ownsRow.kept hown3 hg4 (.inr (fun e => by cases e)))
      have hw93 := hgr3.size
      clear hown2 hown4 hgr3 hown3 hg4
      go_loopw [5] (fun cv wr => ∃ left cnt rs, wr.ranges Tryz.prog 77 tokS b w3.heap.size n D' left cnt ∧ Hid (PhB D' left rs) ∧ Hid (wr.ownsRow w.heap.size 29 1 cv rs.length (rs.map V)) ∧ Hid (w.grownBy wr (some b)) ∧ rs.length + cnt ≤ 1048576) (fun _ wr => wr.rangeLeft b w3.heap.size)
      case atStart => exact ⟨_, _, [], hrg4, Lib.hid (PhB.start D'), HO4, HGR4, by simp; omega⟩
      case round =>
        clear hrg4 hs4 HGR4 HO4
        obtain ⟨left, cnt, rs, hrg, HPB, HO, HGR, hrc⟩ := hrel
        obtain ⟨w5, hw5⟩ : ∃ w', w' = wr := ⟨_, rfl⟩
        rw [← hw5] at hrg HO HGR ⊢
        clear hw5
        have h5s := hrg.lt
        have hww := HGR.out.size
        obtain ⟨cv, hcv⟩ : ∃ cv, cv = u5 := ⟨_, rfl⟩
        rw [← hcv] at HO ⊢
        clear hcv
        go_wp2_with (first | (at_next; refine mapS_next _ rfl _ rfl b w3.heap.size n D' left cnt rfl hrg ?_ ?_))
        · intro hc0 hl0
          have hown5 : w5.ownsRow w.heap.size 29 1 cv (prs V g rs).length ((prs V g rs).map (·.1)) := by rw [prs_fst, show (prs V g rs).length = rs.length by simp [prs]]; exact HO.out
          have HS := Lib.hid (sortOwn_any B w.heap.size cv (prs V g rs) w5 hown5 (fun p hp => by
            unfold prs at hp
            obtain ⟨x, hx, rfl⟩ := List.mem_map.1 hp
            have hx5 := (HPB.out.2.1 x hx).1
            have ho := (H3.out x hx5).2
            exact ⟨OwnI.keptBy ho HGR.out (fun k hk => by cases hk; exact map_apart H1.out ho), fun k hk => (ho.lt k hk).2, HL.out x⟩) (by simp [prs]; omega))
          have HL0 := Lib.hid hl0
          clear hown5 hl0 hrg
          go_wp2_with fail
          refine HS.out.mono ?_
          rintro e w6 ⟨rfl, P', hp, ho, hown6, hP6, hb6⟩
          have HE := Lib.hid (part_end hB h2 H5.out HD.out HPB.out HL0.out HGR.out hp ho hown6 hP6 hb6)
          clear hp ho hown6 hP6 hb6
          go_wp2_with fail
          go_ret
          exact HE.out
        · intro a0 a1 a2 a3 a4 ad m c w1 cnt1 hR hleft hat hrg1 hlt hg1 hs1 hen
          have hPB := HPB.out.step hR hleft
          have hhas : Maps.has D' (klR [a0, a1, a2, a3, a4]) = true := (hPB.2.1 _ (by simp)).2
          have hV : V [a0, a1, a2, a3, a4] = .slice ad m c := by
            have e := (HD.out _ hR).2 hhas (.held nilS)
            rw [hat] at e
            exact (DataW.held.inj e).symm
          have HPB2 := Lib.hid hPB
          have HRG := Lib.hid hrg
          obtain ⟨ia, ib⟩ := iter_apart hrg HO.out
          have hcn : cv.ownBlock ≠ some w3.heap.size := fun e => ib e.symm
          have ho1 := World.ownsRow.kept HO.out hg1 (.inr hcn)
          have HO1 := Lib.hid ho1
          obtain ⟨ja, jb⟩ := iter_apart hrg1 ho1
          have HJA := Lib.hid ja
          have HJB := Lib.hid jb
          have hgr1 := HGR.out.andThen hg1 (fun j hj => by cases hj; exact .inl (by omega))
          have HG1 := Lib.hid (hgr1.andThen (World.grownBy_alloc w1 (.cells #[.slice ad m c] 29) none) (fun j hj => by cases hj))
          have HR1 := Lib.hid (hrg1.alloc (.cells #[.slice ad m c] 29))
          have HE := Lib.hid (show rs.map V ++ [.slice ad m c] = (rs ++ [[a0, a1, a2, a3, a4]]).map V by rw [List.map_append, List.map_singleton, hV])
          have hcB : ∀ j, cv.ownBlock = some j → w.heap.size ≤ j := fun j hj => (World.ownsRow.lt ho1 j hj).1
          have hws1 : w.heap.size ≤ w1.heap.size := by omega
          clear hat hhas hV hPB hrg ia ib hcn ho1 ja jb hgr1 hrg1 hg1 HPB HO HGR hs1
          go_wp2_with (at_builtin; refine wpList_append_own _ rfl _ _ 24 rfl w.heap.size 29 j0 (.slice none 0 0) 1 24 Tryz.underlying24 HJ.out.1 HJ.out.2.1 HJ.out.2.2.1 HJ.out.2.2.2 rfl (by decide) _ _ _ rfl (World.ownsRow.alloc HO1.out _) ⟨w1.heap.size, 0, none⟩ 1 1 [.slice ad m c] rfl rfl (cell_one_new _ _ _) (by intro u hu; simp at hu; subst hu; rfl) (by unfold maxLen; omega) (by omega) (by simp; omega) ?_; intro v' w6 hown6 hgr6 _)
          go_roundw
          case rel => exact ⟨_, cnt1, rs ++ [[a0, a1, a2, a3, a4]], HR1.out.kept hgr6 HJA.out HJB.out, HPB2, Lib.hid (by rw [List.length_append, List.length_singleton, ← HE.out]; exact hown6), Lib.hid (HG1.out.andThen hgr6 (fun j hj => .inl (hcB j hj))), by simp; omega⟩
          case measure => rw [(HR1.out.kept hgr6 HJA.out HJB.out).left_eq, HRG.out.left_eq]; omega
    · intro a0 a1 a2 a3 a4 ad m c w1 cnt1 hR hleft hat hrg1 hlt hg1 hs1 hen
      obtain ⟨hv, ho⟩ := HP.out.come H1.out hgr hR (H3.out _ hR).2 HLE.out hleft hat
      have hm : m = (g [a0, a1, a2, a3, a4]).length := by
        obtain ⟨a', c', e⟩ := own_sliceP ho
        cases e; rfl
      have hgr1 : w.grownBy (w1.alloc (.cells #[.int .i64 a0, .int .i64 a1, .int .i64 a2, .int .i64 a3, .int .i64 a4] 77)) (some b) := (hgr.andThen hg1 (fun j hj => by cases hj; exact .inl (Nat.le_refl _))).andThen (World.grownBy_alloc w1 _ none) (fun j hj => by cases hj)
      have hrg2 := hrg1.alloc (.cells #[.int .i64 a0, .int .i64 a1, .int .i64 a2, .int .i64 a3, .int .i64 a4] 77)
      have hll := HL.out [a0, a1, a2, a3, a4]
      by_cases hs : (g [a0, a1, a2, a3, a4]).length < 2
      · have HD := Lib.hid (HP.out.drop hR hs)
        have HK := Lib.hid (keyOf_klR hR)
        have hm2 : (m : Int) < 2 := by omega
        have HRG := Lib.hid hrg
        clear hat ho hv hrg1 hm hs hll hrg
        go_wp2_with (first | (at_delete; refine wpList_delete_ranges _ rfl _ _ 73 77 rfl 29 keyR Tryz.underlying73 tokS b w.heap.size n D' _ cnt1 rfl hrg2 _ _ rfl HK.out ?_; intro w2 cnt2 hrg3 hle hturn))
        go_roundw
        case rel => exact ⟨_, _, _, _, _, _, _, _, _, _, _, _, ⟨_, cnt2, _, by rw [Maps.strike_twice] at hrg3; exact hrg3, Lib.hid HD.out, hgr1.andThen hturn.grown (fun j hj => by cases hj; exact .inr rfl), Lib.hid (fun y hy hly => HLE.out y hy (by simp at hly; exact hly.1))⟩, rfl⟩
        case measure => rw [hrg3.left_eq, HRG.out.left_eq]; omega
      · have HD := Lib.hid (HP.out.keep hR (by omega))
        have hm2 : ¬ (m : Int) < 2 := by omega
        have HRG := Lib.hid hrg
        clear hat ho hv hrg1 hm hs hll hrg
        go_wp2_with fail
        go_roundw
        case rel => exact ⟨_, cnt1, _, hrg2, Lib.hid HD.out, hgr1, Lib.hid (fun y hy hly => HLE.out y hy (by simp at hly; exact hly.1))⟩
        case measure => rw [hrg2.left_eq, HRG.out.left_eq]; omega
end Go.Proofs.YtnbjcelfdppkcaaGreat
namespace Go.Proofs.YtnbjcelfdppkcaaGreat

theorem ascG_unique {α : Type} {r : α → α → Prop} (irr : ∀ x, ¬ r x x) (tr : ∀ x y z, r x y → r y z → r x z) : ∀ (a b : List α), a.Pairwise r → b.Pairwise r → (∀ x, x ∈ a ↔ x ∈ b) → a = b
  | [], [], _, _, _ => rfl
  | [], y :: t, _, _, h => by have := (h y).2 (by simp); cases this
  | x :: s, [], _, _, h => by have := (h x).1 (by simp); cases this
  | x :: s, y :: t, ha, hb, h => by
    rw [List.pairwise_cons] at ha hb
    have hxy : x = y := by
      rcases List.mem_cons.1 ((h x).1 (by simp)) with e | e
      · exact e
      · rcases List.mem_cons.1 ((h y).2 (by simp)) with e' | e'
        · exact e'.symm
        · exact (irr x (tr _ _ _ (ha.1 y e') (hb.1 x e))).elim
    subst hxy
    have hst : s = t := ascG_unique irr tr s t ha.2 hb.2 fun z => by
      have hz := h z
      rw [List.mem_cons, List.mem_cons] at hz
      constructor
      · intro hm
        rcases hz.1 (Or.inr hm) with e | e
        · subst e; exact (irr z (ha.1 z hm)).elim
        · exact e
      · intro hm
        rcases hz.2 (Or.inr hm) with e | e
        · subst e; exact (irr z (hb.1 z hm)).elim
        · exact e
    rw [hst]
/-- The rows whose key is r. -/
def grpOf (key : Nat → Option (List Int)) (n : Nat) (r : List Int) : List Int := ((List.range n).filter fun i => decide (key i = some r)).map fun (i : Nat) => (i : Int)
theorem grpOf_mem {key : Nat → Option (List Int)} {n : Nat} {r : List Int} {x : Int} : x ∈ grpOf key n r ↔ ∃ i, i < n ∧ key i = some r ∧ x = (i : Int) := by
  unfold grpOf
  rw [List.mem_map]
  constructor
  · rintro ⟨i, hi, rfl⟩
    rw [List.mem_filter, List.mem_range, decide_eq_true_eq] at hi
    exact ⟨i, hi.1, hi.2, rfl⟩
  · rintro ⟨i, h1, h2, rfl⟩
    exact ⟨i, by rw [List.mem_filter, List.mem_range, decide_eq_true_eq]; exact ⟨h1, h2⟩, rfl⟩
theorem range_asc (n : Nat) : (List.range n).Pairwise (fun a b => a < b) := List.pairwise_lt_range
theorem grpOf_asc (key : Nat → Option (List Int)) (n : Nat) (r : List Int) : (grpOf key n r).Pairwise (fun a b => a < b) := by
  unfold grpOf
  rw [List.pairwise_map]
  exact ((range_asc n).filter _).imp fun {a b} h => by omega
theorem grpOf_len (key : Nat → Option (List Int)) (n : Nat) (r : List Int) : (grpOf key n r).length ≤ n := by
  unfold grpOf
  rw [List.length_map]
  exact Nat.le_trans (List.length_filter_le _ _) (by simp)
theorem grpOf_zero (key : Nat → Option (List Int)) (r : List Int) : [] = grpOf key 0 r := rfl
theorem grpOf_some {key : Nat → Option (List Int)} {n : Nat} {r : List Int} (h : key n = some r) (s : List Int) : (if s = r then grpOf key n s ++ [(n : Int)] else grpOf key n s) = grpOf key (n + 1) s := by
  unfold grpOf
  rw [List.range_succ, List.filter_append, List.map_append]
  by_cases hs : s = r
  · subst hs
    simp [h]
  · rw [if_neg hs, List.filter_cons, if_neg (by rw [h]; simp; exact fun e => hs e.symm)]; simp
theorem grpOf_none {key : Nat → Option (List Int)} {n : Nat} (h : key n = none) (s : List Int) : grpOf key n s = grpOf key (n + 1) s := by
  unfold grpOf
  rw [List.range_succ, List.filter_append, List.map_append, List.filter_cons, if_neg (by rw [h]; simp)]; simp
theorem asc_head {l : List Int} {a : Int} (h : l.Pairwise (fun a b => a < b)) (ha : a ∈ l) (hl : ∀ x ∈ l, a ≤ x) : ∃ t, l = a :: t := by
  cases l with
  | nil => cases ha
  | cons x t =>
    rw [List.pairwise_cons] at h
    rcases List.mem_cons.1 ha with e | e
    · exact ⟨t, by rw [e]⟩
    · have := h.1 a e
      have := hl x (by simp)
      omega
theorem least_key {key : Nat → Option (List Int)} {r : List Int} : ∀ n, (∃ i, i < n ∧ key i = some r) → ∃ a, a < n ∧ key a = some r ∧ ∀ b, b < a → key b ≠ some r
  | 0, ⟨i, h, _⟩ => absurd h (Nat.not_lt_zero _)
  | n + 1, ⟨i, h, hi⟩ => by
    by_cases hx : ∃ j, j < n ∧ key j = some r
    · obtain ⟨a, h1, h2⟩ := least_key n hx
      exact ⟨a, by omega, h2⟩
    · have : i = n := by
        by_cases e : i = n
        · exact e
        · exact (hx ⟨i, by omega, hi⟩).elim
      subst this
      exact ⟨i, h, hi, fun b hb e => hx ⟨b, hb, e⟩⟩
theorem grpOf_head {key : Nat → Option (List Int)} {n a : Nat} {r : List Int} (ha : a < n) (hk : key a = some r) (hf : ∀ b, b < a → key b ≠ some r) : ∃ t, grpOf key n r = (a : Int) :: t := by
  refine asc_head (grpOf_asc key n r) (grpOf_mem.2 ⟨a, ha, hk, rfl⟩) fun x hx => ?_
  obtain ⟨i, h1, h2, rfl⟩ := grpOf_mem.1 hx
  by_cases h : i < a
  · exact (hf i h h2).elim
  · omega
/-- The groups of at least two rows, in order, are the classes of the rows that are the first ones with their keys. -/
theorem groups_eq {key : Nat → Option (List Int)} {n : Nat} (hR : ∀ i r, i < n → key i = some r → R5 r) {L rs : List (List Int)} (hp : L.Perm (rs.map (grpOf key n))) (ho : L.Pairwise (fun p q => lessR q p = false)) (hn : rs.Nodup)
    (hm : ∀ x, R5 x → (x ∈ rs ↔ 2 ≤ (grpOf key n x).length)) (h5 : ∀ x ∈ rs, R5 x) {P : Nat → Bool} {cl : Nat → List Int}
    (hP : ∀ a, a < n → (P a = true ↔ ∃ r, key a = some r ∧ (∀ b, b < a → key b ≠ some r) ∧ 2 ≤ (grpOf key n r).length)) (hc : ∀ a, a < n → ∀ r, key a = some r → (∀ b, b < a → key b ≠ some r) → cl a = grpOf key n r) :
    L = ((List.range n).filter P).map cl := by
  refine ascG_unique (r := fun p q => lessR p q = true) (fun x => by rw [lessR_irrefl]; simp) lessR_trans _ _ ?_ ?_ ?_
  · have hnd : L.Nodup := by
      refine hp.nodup_iff.2 ?_
      unfold List.Nodup
      rw [List.pairwise_map]
      refine hn.imp_of_mem fun {r r'} h1 h2 hne e => hne ?_
      have h3 := (hm r (h5 r h1)).1 h1
      cases hg : grpOf key n r with
      | nil => rw [hg] at h3; simp at h3
      | cons x t =>
        obtain ⟨i, -, h4, hx⟩ := grpOf_mem.1 (show x ∈ grpOf key n r by rw [hg]; simp)
        obtain ⟨k, -, h6, hy⟩ := grpOf_mem.1 (show x ∈ grpOf key n r' by rw [← e, hg]; simp)
        obtain rfl : i = k := by omega
        rw [h4] at h6
        exact Option.some.inj h6
    refine (ho.and hnd).imp fun {p q} h => ?_
    cases hl : lessR p q with
    | true => rfl
    | false => exact (h.2 (lessR_total p q hl h.1)).elim
  · rw [List.pairwise_map]
    refine ((range_asc n).filter P).imp_of_mem fun {a b} ha hb hab => ?_
    rw [List.mem_filter, List.mem_range] at ha hb
    obtain ⟨r, h1, h2, -⟩ := (hP a ha.1).1 ha.2
    obtain ⟨r', h1', h2', -⟩ := (hP b hb.1).1 hb.2
    rw [hc a ha.1 r h1 h2, hc b hb.1 r' h1' h2']
    obtain ⟨t, ht⟩ := grpOf_head ha.1 h1 h2
    obtain ⟨t', ht'⟩ := grpOf_head hb.1 h1' h2'
    rw [ht, ht']
    unfold lessR
    rw [if_neg (by omega), decide_eq_true_eq]; omega
  · intro z
    rw [hp.mem_iff, List.mem_map, List.mem_map]
    constructor
    · rintro ⟨r, hr, rfl⟩
      have h3 := (hm r (h5 r hr)).1 hr
      obtain ⟨a, h4, h6, h7⟩ := least_key (key := key) (r := r) n (by
        cases hg : grpOf key n r with
        | nil => rw [hg] at h3; simp at h3
        | cons x t =>
          obtain ⟨i, h1, h4, -⟩ := grpOf_mem.1 (show x ∈ grpOf key n r by rw [hg]; simp)
          exact ⟨i, h1, h4⟩)
      exact ⟨a, by rw [List.mem_filter, List.mem_range]; exact ⟨h4, (hP a h4).2 ⟨r, h6, h7, h3⟩⟩, hc a h4 r h6 h7⟩
    · rintro ⟨a, ha, rfl⟩
      rw [List.mem_filter, List.mem_range] at ha
      obtain ⟨r, h1, h2, h3⟩ := (hP a ha.1).1 ha.2
      exact ⟨r, (hm r (hR a r ha.1 h1)).2 h3, (hc a ha.1 r h1 h2).symm⟩
/-- The key of a row in a product. -/
def keyP (p q : List (List Int)) (i : Nat) : Option (List Int) := if 0 ≤ clsI p (i : Int) ∧ 0 ≤ clsI q (i : Int) then some [clsI p (i : Int), clsI q (i : Int), 0, 0, 0] else none
theorem keyP_same {p q : List (List Int)} {a b : Nat} {r : List Int} (h : keyP p q a = some r) : keyP p q b = some r ↔ clsI p (b : Int) = clsI p (a : Int) ∧ clsI q (b : Int) = clsI q (a : Int) := by
  unfold keyP at *
  split at h
  · next h0 =>
    have h' := (Option.some.inj h).symm
    subst h'
    constructor
    · intro hb
      split at hb
      · have := Option.some.inj hb
        simp only [List.cons.injEq, and_true] at this
        exact this
      · cases hb
    · rintro ⟨h1, h2⟩
      rw [if_pos (by rw [h1, h2]; exact h0), h1, h2]
  · cases h
theorem prC_asc {p : List (List Int)} (q : List (List Int)) {rows : Int} (hp : partP p rows = true) {a b : Nat} (ha : a < p.length) : (prC p q a b).Pairwise (fun x y => x < y) := by
  obtain ⟨-, hc⟩ := partP_iff.mp hp
  have h4 := (hc a ha).2.2.2.1
  unfold prC
  refine List.Pairwise.filter _ ?_
  rw [List.pairwise_iff_getElem]
  intro i j hi hj hij
  have := asc_lt h4 (i := i) (j - i - 1) (by omega)
  rw [show i + (j - i - 1) + 1 = j by omega, ← get_getD _ _ hi, ← get_getD _ _ hj] at this
  exact this
theorem product_eq {p q : List (List Int)} {rows : Int} (hp : partP p rows = true) (hq : partP q rows = true) {L rs : List (List Int)} (hpm : L.Perm (rs.map (grpOf (keyP p q) rows.toNat))) (ho : L.Pairwise (fun p q => lessR q p = false)) (hn : rs.Nodup)
    (hm : ∀ x, R5 x → (x ∈ rs ↔ 2 ≤ (grpOf (keyP p q) rows.toNat x).length)) (h5 : ∀ x ∈ rs, R5 x) (hR : ∀ i r, i < rows.toNat → keyP p q i = some r → R5 r) : L = proS p q rows := by
  rw [proS_eq p q rows hp hq]
  have hrow := partP_rows hp
  have hcl : ∀ a, a < rows.toNat → ∀ r, keyP p q a = some r → prC p q (clsI p (a : Int)).toNat (clsI q (a : Int)).toNat = grpOf (keyP p q) rows.toNat r := by
    intro a ha r hk
    have hk' := hk
    unfold keyP at hk'
    split at hk'
    · next h0 =>
      have h2 := clsI_ge p (a : Int)
      refine ascG_unique (r := fun x y => x < y) (fun x => by omega) (fun x y z => by omega) _ _ (prC_asc q hp (by omega)) (grpOf_asc _ _ _) fun x => ?_
      rw [prC_mem hp hq h0.1 h0.2, grpOf_mem]
      constructor
      · rintro ⟨h3, h4⟩
        have hx : x ∈ p.getD (clsI p x).toNat [] := (clsI_part hp (by omega)).2 (by omega)
        obtain ⟨t, ht, e⟩ := mem_getD'.mp hx
        have hb := ((partP_iff.mp hp).2 _ (by omega)).2.2.1 t ht
        rw [← e] at hb
        refine ⟨x.toNat, by omega, (keyP_same hk).2 ?_, by omega⟩
        rw [show ((x.toNat : Nat) : Int) = x by omega]
        exact ⟨h3, h4⟩
      · rintro ⟨i, h3, h4, rfl⟩
        exact (keyP_same hk).1 h4
    · cases hk'
  refine groups_eq hR hpm ho hn hm h5 (fun a ha => ?_) (fun a ha r hk _ => hcl a ha r hk)
  rw [Bool.and_eq_true, decide_eq_true_eq]
  unfold rep2
  rw [Bool.and_eq_true, decide_eq_true_eq, Bool.not_eq_true']
  constructor
  · rintro ⟨⟨h0, h1⟩, h2⟩
    have hk : keyP p q a = some [clsI p (a : Int), clsI q (a : Int), 0, 0, 0] := by unfold keyP; rw [if_pos h0]
    refine ⟨_, hk, fun b hb e => ?_, by rw [← hcl a ha _ hk]; omega⟩
    rw [List.any_eq_false] at h1
    exact h1 b (List.mem_range.mpr hb) (decide_eq_true ((keyP_same hk).1 e))
  · rintro ⟨r, hk, hf, hlen⟩
    have hk' := hk
    unfold keyP at hk'
    split at hk'
    · next h0 =>
      refine ⟨⟨h0, ?_⟩, by rw [hcl a ha r hk]; omega⟩
      rw [List.any_eq_false]
      intro b hb hd
      exact hf b (List.mem_range.mp hb) ((keyP_same hk).2 (of_decide_eq_true hd))
    · cases hk'
end Go.Proofs.YtnbjcelfdppkcaaGreat
namespace Go.Proofs.YtnbjcelfdppkcaaGreat

theorem rowsC_asc (c : Nat) (ll : List (List Int)) (m s : Int) (i : Nat) : ∀ n, (rowsC c ll m s i n).Pairwise (fun a b => a < b)
  | 0 => by simp [rowsC]
  | n + 1 => by
    have ih := rowsC_asc c ll m s i n
    unfold rowsC
    split
    · rw [List.pairwise_append]
      refine ⟨ih, by simp, fun x hx y hy => ?_⟩
      rw [List.mem_singleton] at hy
      subst hy
      rw [rowsC_mem] at hx
      rcases hx with rfl | ⟨k, h1, h2, -, rfl⟩ <;> omega
    · exact ih
theorem clsC_grp {c : Nat} {ll : List (List Int)} {m : Int} {S a : Nat} {r : List Int} (hc : c ≤ 5) (hS : S < 2 ^ c) (ha : a < ll.length) (hk : keyT c ll m S a = some r) (hf : ∀ b, b < a → keyT c ll m S b ≠ some r) : clsC c ll m (S : Int) a = grpOf (keyT c ll m S) ll.length r := by
  refine ascG_unique (r := fun x y => x < y) (fun x => by omega) (fun x y z => by omega) _ _ (rowsC_asc _ _ _ _ _ _) (grpOf_asc _ _ _) fun x => ?_
  rw [clsC_mem c ll m _ a ha, grpOf_mem]
  constructor
  · rintro (rfl | ⟨k, h1, h2, h3, rfl⟩)
    · exact ⟨a, ha, hk, rfl⟩
    · exact ⟨k, h2, (key_agree hc hS hk).2 h3, rfl⟩
  · rintro ⟨i, h1, h2, rfl⟩
    rcases Nat.lt_trichotomy i a with h | rfl | h
    · exact (hf i h h2).elim
    · exact .inl rfl
    · exact .inr ⟨i, h, h1, (key_agree hc hS hk).1 h2, rfl⟩
theorem table_eq {c m : Int} {ll : List (List Int)} {S : Nat} (hf : fineT c ll m = true) (hs : isA c (S : Int) = true) (hS : S < 2 ^ c.toNat) {L rs : List (List Int)} (hpm : L.Perm (rs.map (grpOf (keyT c.toNat ll m S) ll.length)))
    (ho : L.Pairwise (fun p q => lessR q p = false)) (hn : rs.Nodup) (hm : ∀ x, R5 x → (x ∈ rs ↔ 2 ≤ (grpOf (keyT c.toNat ll m S) ll.length x).length)) (h5 : ∀ x ∈ rs, R5 x) : L = prtS c ll m (S : Int) := by
  rw [prtS_eq c ll m _ hf hs]
  have hT : isT c ll = true := by unfold fineT at hf; simp at hf; exact hf.1
  obtain ⟨c1, c5, -⟩ := isT_bd hT
  have hc : c.toNat ≤ 5 := by omega
  refine groups_eq (fun i r hi hk => ?_) hpm ho hn hm h5 (fun a ha => ?_) (fun a ha r hk hfst => clsC_grp hc hS ha hk hfst)
  · unfold keyT at hk
    split at hk
    · cases hk
      exact pad5_r5 (recC_bd hT hS hi)
    · cases hk
  · rw [Bool.and_eq_true, decide_eq_true_eq]
    have hrep : ∀ r, keyT c.toNat ll m S a = some r → (repB c.toNat ll m (S : Int) a = true ↔ ∀ b, b < a → keyT c.toNat ll m S b ≠ some r) := by
      intro r hk
      unfold repB
      rw [Bool.not_eq_true', List.any_eq_false]
      constructor
      · intro h b hb e
        exact h b (List.mem_range.mpr hb) (agB_symm hc hS ((key_agree hc hS hk).1 e))
      · intro h b hb e
        exact h b (List.mem_range.mp hb) ((key_agree hc hS hk).2 (agB_symm hc hS e))
    constructor
    · rintro ⟨h1, h2⟩
      have haa : agB c.toNat ll m (S : Int) a a = true := by
        cases hq : clsC c.toNat ll m (S : Int) a with
        | nil => rw [hq] at h2; simp at h2
        | cons x t =>
          cases t with
          | nil => rw [hq] at h2; simp at h2
          | cons y t =>
            have hx := (clsC_mem c.toNat ll m (S : Int) a ha x).1 (by rw [hq]; simp)
            have hy := (clsC_mem c.toNat ll m (S : Int) a ha y).1 (by rw [hq]; simp)
            have hxy : x < y := by
              have := rowsC_asc c.toNat ll m (S : Int) a (ll.length - (a + 1))
              unfold clsC at hq
              rw [hq, List.pairwise_cons] at this
              exact this.1 y (by simp)
            rcases hy with rfl | ⟨k, -, -, h, -⟩
            · rcases hx with rfl | ⟨k, h3, -, -, rfl⟩ <;> omega
            · exact agB_trans hc hS h (agB_symm hc hS h)
      have hk : keyT c.toNat ll m S a = some (pad5 (recC ll S a)) := by unfold keyT; rw [if_pos haa]
      have hfst := (hrep _ hk).1 h1
      exact ⟨_, hk, hfst, by rw [← clsC_grp hc hS ha hk hfst]; omega⟩
    · rintro ⟨r, hk, hfst, h2⟩
      exact ⟨(hrep r hk).2 hfst, by rw [clsC_grp hc hS ha hk hfst]; omega⟩
end Go.Proofs.YtnbjcelfdppkcaaGreat
namespace Go.Proofs.YtnbjcelfdppkcaaGreat
open Go.RowKit
open Go.Maps (Keyed)

theorem keyI : Keyed Tryz.prog 3 := Go.Maps.int_keyed Tryz.underlying3
theorem zeroI (w : World) : (zeroValue 3).run Tryz.prog w = .ok (.int .i64 0) w := by kernel_rfl
/-- Block b is a map of at most n entries that has f's values at f's keys. -/
def MapI (w : World) (b n : Nat) (f : Int → Option Int) : Prop :=
  ∃ D : DataW Unit, w.ownsMap Tryz.prog 3 (plainElem Tryz.prog 3) b n D ∧ ∀ x, (Lit.int .i64 x).wf = true → Maps.has D (.int .i64 x) = (f x).isSome ∧ D.atKey (.int .i64 x) (.lit (.int .i64 0)) = .lit (.int .i64 ((f x).getD 0))
theorem MapI.made (w : World) : MapI (w.alloc (.map #[] 0)) w.heap.size 0 (fun _ => none) :=
  ⟨.map [], World.ownsMap_made _ _ _ _, fun _ _ => ⟨rfl, rfl⟩⟩
theorem MapI.mono {w : World} {b n n' : Nat} {f : Int → Option Int} (h : MapI w b n f) (hn : n ≤ n') : MapI w b n' f := by
  obtain ⟨D, h1, h2⟩ := h; exact ⟨D, h1.mono hn, h2⟩
theorem MapI.congr {w : World} {b n : Nat} {f g : Int → Option Int} (h : MapI w b n f) (hn : ∀ x, f x = g x) : MapI w b n g := by
  obtain ⟨D, h1, h2⟩ := h; exact ⟨D, h1, fun x hx => by rw [← hn x]; exact h2 x hx⟩
theorem MapI.lt {w : World} {b n : Nat} {f : Int → Option Int} (h : MapI w b n f) : b < w.heap.size := by
  obtain ⟨D, h1, -⟩ := h; exact h1.lt
theorem MapI.kept {w w' : World} {b n : Nat} {f : Int → Option Int} {row : Option Nat} (h : MapI w b n f) (hg : w.grownBy w' row) (hne : some b ≠ row) : MapI w' b n f := by
  obtain ⟨D, h1, h2⟩ := h; exact ⟨D, h1.kept hg hne, h2⟩
theorem MapI.below {w w' : World} {b n C : Nat} {f : Int → Option Int} (h : MapI w b n f) (hb : Below C w w') (hC : b < C) : MapI w' b n f := by
  obtain ⟨D, h1, h2⟩ := h
  obtain ⟨es, clock, h3, r⟩ := h1
  exact ⟨D, ⟨es, clock, (hb.block b hC).trans h3, r⟩, h2⟩
section
variable (w : World) {ops : Array Oper} {rest : List Oper} {o : Oper} {a : Act} {Q : Exit → Act → World → Prop}
end
end Go.Proofs.YtnbjcelfdppkcaaGreat
namespace Go.Proofs.YtnbjcelfdppkcaaGreat
open Go.RowKit

/-- At least two rows, all from 0 on and below rows, in ascending order: place by place. -/
def inC (rows : Int) (r : List Int) (k : Nat) : Bool := decide ((if k = 0 then 0 else r.getD (k - 1) 0 + 1) ≤ r.getD k 0 ∧ r.getD k 0 < rows)
def isC (rows : Int) (r : List Int) : Bool := decide (2 ≤ r.length) && (List.range r.length).all (inC rows r)
def leastC (r : List Int) : Nat → Int
  | 0 => 0
  | k + 1 => r.getD k 0 + 1
theorem range_snoc {p : Nat → Bool} {k : Nat} (h : (List.range k).all p = true) (hp : p k = true) : (List.range (k + 1)).all p = true := by
  rw [List.range_succ, List.all_append, h]; simp [hp]
theorem range_not {p : Nat → Bool} {k n : Nat} (hk : k < n) (hp : p k = false) : (List.range n).all p = false := by
  cases h : (List.range n).all p with
  | false => rfl
  | true => have := List.all_eq_true.1 h k (List.mem_range.2 hk); rw [hp] at this; cases this
end Go.Proofs.YtnbjcelfdppkcaaGreat
namespace Go.Proofs.YtnbjcelfdppkcaaGreat
open Go.RowKit

/-- The first class that has a row, if there is one. -/
def fcl (q : List (List Int)) (x : Int) : Option Int := if clsI q x < 0 then none else some (clsI q x)
theorem clsI_app : ∀ (q : List (List Int)) (s : List Int) (x : Int), clsI (q ++ [s]) x = if clsI q x < 0 then (if x ∈ s then (q.length : Int) else -1) else clsI q x
  | [], s, x => by simp [clsI]
  | r :: t, s, x => by
    have ih := clsI_app t s x
    have h1 := clsI_ge t x
    have h2 := clsI_ge (t ++ [s]) x
    show (if x ∈ r then 0 else if clsI (t ++ [s]) x < 0 then -1 else clsI (t ++ [s]) x + 1) = if (if x ∈ r then 0 else if clsI t x < 0 then -1 else clsI t x + 1) < 0 then (if x ∈ s then ((r :: t).length : Int) else -1) else (if x ∈ r then 0 else if clsI t x < 0 then -1 else clsI t x + 1)
    rw [ih]
    by_cases ha : x ∈ r <;> by_cases hb : clsI t x < 0 <;> by_cases hc : x ∈ s <;> simp only [ha, hb, hc, if_true, if_false, List.length_cons] <;> first | rfl | omega | (split <;> omega) | (split <;> split <;> omega)
theorem fcl_app (q : List (List Int)) (s : List Int) (x : Int) : fcl (q ++ [s]) x = if clsI q x < 0 then (if x ∈ s then some (q.length : Int) else none) else some (clsI q x) := by
  unfold fcl
  rw [clsI_app]
  by_cases hb : clsI q x < 0 <;> by_cases hc : x ∈ s <;> simp only [hb, hc, if_true, if_false] <;> first | rfl | (rw [if_neg (by omega)]) | (rw [if_pos (by omega)])
theorem fcl_nil (x : Int) : none = fcl [] x := rfl
theorem fcl_empty (q : List (List Int)) (x : Int) : fcl q x = fcl (q ++ [[]]) x := by
  rw [fcl_app]; unfold fcl; simp
theorem fcl_more (q : List (List Int)) (s : List Int) (y : Int) (h : fcl (q ++ [s]) y = none) (z : Int) : (if z = y then some (q.length : Int) else fcl (q ++ [s]) z) = fcl (q ++ [s ++ [y]]) z := by
  rw [fcl_app] at *
  rw [fcl_app]
  by_cases hz : z = y
  · subst hz
    rw [if_pos rfl]
    split at h
    · next h1 => rw [if_pos h1, if_pos (by simp)]
    · cases h
  · rw [if_neg hz]
    have : z ∈ s ++ [y] ↔ z ∈ s := by simp [hz]
    simp only [this]
theorem fcl_same (q : List (List Int)) (s : List Int) (y c : Int) (h : fcl (q ++ [s]) y = some c) (z : Int) : fcl (q ++ [s]) z = fcl (q ++ [s ++ [y]]) z := by
  rw [fcl_app] at *
  rw [fcl_app]
  by_cases hz : z = y
  · subst hz
    split at h
    · next h1 =>
      split at h
      · next h2 => simp [h1, h2]
      · cases h
    · next h1 => simp [h1]
  · have : z ∈ s ++ [y] ↔ z ∈ s := by simp [hz]
    simp only [this]
theorem fcl_bd (q : List (List Int)) (x c : Int) (h : fcl q x = some c) : 0 ≤ c ∧ c < q.length := by
  unfold fcl at h
  have := clsI_ge q x
  split at h
  · cases h
  · cases h; omega
theorem fcl_take (p : List (List Int)) (i : Nat) (h : i < p.length) : p.take (i + 1) = p.take i ++ [p.getD i []] := take_succ_getD p [] i h

theorem I64ss.wf {p : List (List Int)} (h : I64ss p) {i : Nat} (hi : i < p.length) {x : Int} (hx : x ∈ p.getD i []) : (Lit.int .i64 x).wf = true := by
  have := h i hi x hx
  exact WalkArith.wf_i64 (by omega)
end Go.Proofs.YtnbjcelfdppkcaaGreat
