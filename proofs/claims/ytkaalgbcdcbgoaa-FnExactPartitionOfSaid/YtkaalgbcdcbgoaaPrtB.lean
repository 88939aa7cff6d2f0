/- The program's partition of a grouping, by contract. Conditions: as stated. -/
import Derived.Test.YtkaalgbcdcbgoaaPrtA
import Derived.Test.YtkaalgbcdcbgoaaPrtS
import Derived.Test.YtkaalgbcdcbgoaaImA
namespace Go.Proofs.Ytkaalgbcdcbgoaa
open Go.RowKit
open Go.Maps (Keyed)

theorem own_sliceP {w : World} {B : Nat} {v : Value} {l : List Int} (h : OwnI w B v l) : ∃ a c, v = .slice a l.length c := by
  rcases h.shape with ⟨rfl, e⟩ | ⟨g, cap, rfl, -⟩
  · exact ⟨none, 0, by rw [e]; rfl⟩
  · exact ⟨_, _, rfl⟩
/-- What is known of an entry that has come. -/
theorem PhA.come {w wr : World} {b n B : Nat} {D D' : DataW Value} {V : List Int → Value} {g : List Int → List Int} {left : Lit → Bool} (h : PhA D D' V g left) (h1 : MapR w b n D) (hgr : w.grownBy wr (some b)) {x : List Int} (hx : R5 x)
    (hO : OwnI w B (V x) (g x)) (hL : ∀ y, R5 y → left (klR y) = true → Maps.has D (klR y) = true) (hl : left (klR x) = true) {v : Value} (hat : ∀ zd, D'.atKey (klR x) zd = .held v) : v = V x ∧ OwnI wr B v (g x) := by
  obtain ⟨e1, e2⟩ := h.2 x hx
  rw [hl, hL x hx hl] at e1
  have e3 := e2 (by simpa using e1) (.held nilS)
  rw [hat] at e3
  cases e3
  exact ⟨rfl, OwnI.keptBy hO hgr (fun k hk => by cases hk; exact map_apart h1 hO)⟩

theorem iter_apart {w : World} {b r n : Nat} {D : DataW Value} {left : Lit → Bool} {cnt B m : Nat} {E : TypeId} {v : Value} {xs : List Value} (h : w.ranges Try.prog 55 tokS b r n D left cnt) (h' : w.ownsRow B E 1 v m xs) : some b ≠ v.ownBlock ∧ some r ≠ v.ownBlock := by
  obtain ⟨es, clock, since, seen, c0, hb, -, -, -, hr, -⟩ := h
  rcases h'.2 with ⟨rfl, _⟩ | ⟨g, cap, cur, rfl, hB, hgg, rest⟩
  · exact ⟨(fun e => by cases e), (fun e => by cases e)⟩
  · refine ⟨fun e => ?_, fun e => ?_⟩
    · cases e; rw [hb] at hgg; cases hgg
    · cases e; rw [hr] at hgg; cases hgg
theorem ownsRow_down {w : World} {base base' : Nat} {e : TypeId} {size : Nat} {v : Value} {n : Nat} {xs : List Value} (h : w.ownsRow base e size v n xs) (hb : base' ≤ base) : w.ownsRow base' e size v n xs := by
  refine ⟨h.1, ?_⟩
  rcases h.2 with h' | ⟨g, cap, cur, e1, hB, rest⟩
  · exact .inl h'
  · exact .inr ⟨g, cap, cur, e1, Nat.le_trans hb hB, rest⟩
/-- What partition leaves: the groups of at least two rows, in order. -/
def RetP (B : Nat) (g : List Int → List Int) (w : World) (e : Ending) (w' : World) : Prop :=
  ∃ (v : Value) (L rs : List (List Int)), e = .returned v ∧ OwnSS w' B w'.heap.size v L ∧ L.Perm (rs.map g) ∧ L.Pairwise (fun p q => lessR q p = false) ∧ rs.Nodup ∧ (∀ x ∈ rs, R5 x) ∧ (∀ x, R5 x → (x ∈ rs ↔ 2 ≤ (g x).length)) ∧ Below B w w'
theorem OwnSS.ofP {w : World} {B C : Nat} {v : Value} {P : List (Value × List Int)} (h1 : w.ownsRow B 46 1 v P.length (P.map (·.1))) (hC : ∀ g, v.ownBlock = some g → g < C)
    (h2 : ∀ p ∈ P, OwnI w B p.1 p.2 ∧ ∀ g, p.1.ownBlock = some g → g < C) (h3 : P.Pairwise (fun x y => ∀ g, x.1.ownBlock = some g → y.1.ownBlock ≠ some g)) : OwnSS w B C v (P.map (·.2)) := by
  have hg : ∀ i (h : i < P.length), (P.getD i (undef, [])) = P[i] := fun i h => by rw [List.getD_eq_getElem?_getD, List.getElem?_eq_getElem h]; rfl
  have hg2 : ∀ i (h : i < P.length), (P.map (·.2)).getD i [] = P[i].2 := fun i h => by rw [List.getD_eq_getElem?_getD, List.getElem?_eq_getElem (by simpa using h)]; simp
  refine ⟨fun i => (P.getD i (undef, [])).1, ?_, hC, fun i hi => ?_, fun i j hij hj g => ?_⟩
  · have e : (List.range (P.map (·.2)).length).map (fun i => (P.getD i (undef, [])).1) = P.map (·.1) := by
      apply List.ext_getElem
      · simp
      · intro i k1 k2
        simp only [List.length_map] at k2
        rw [List.getElem_map, List.getElem_range, List.getElem_map, hg i k2]
    rw [e, List.length_map]; exact h1
  · rw [List.length_map] at hi
    show OwnI w B (P.getD i (undef, [])).1 _ ∧ ∀ g, (P.getD i (undef, [])).1.ownBlock = some g → g < C
    rw [hg i hi, hg2 i hi]
    exact h2 _ (List.getElem_mem hi)
  · rw [List.length_map] at hj
    show (P.getD i (undef, [])).1.ownBlock = some g → (P.getD j (undef, [])).1.ownBlock ≠ some g
    rw [hg i (by omega), hg j hj]
    exact (List.pairwise_iff_getElem.1 h3) i j (by omega) hj hij g
/-- The classes in any order, the slices and the rows side by side. -/
def prs (V : List Int → Value) (g : List Int → List Int) (rs : List (List Int)) : List (Value × List Int) := rs.map fun r => (V r, g r)
theorem prs_fst (V : List Int → Value) (g : List Int → List Int) (rs : List (List Int)) : (prs V g rs).map (·.1) = rs.map V := by unfold prs; rw [List.map_map]; rfl
theorem prs_snd (V : List Int → Value) (g : List Int → List Int) (rs : List (List Int)) : (prs V g rs).map (·.2) = rs.map g := by unfold prs; rw [List.map_map]; rfl
theorem prs_apart {V : List Int → Value} {g : List Int → List Int} {rs : List (List Int)} (h5 : ∀ r r', R5 r → R5 r' → r ≠ r' → ∀ k, (V r).ownBlock = some k → (V r').ownBlock ≠ some k) (hn : rs.Nodup) (h : ∀ x ∈ rs, R5 x) :
    (prs V g rs).Pairwise (fun x y => ∀ g, x.1.ownBlock = some g → y.1.ownBlock ≠ some g) := by
  unfold prs
  rw [List.pairwise_map]
  exact hn.imp_of_mem fun {a b} ha hb hne => h5 a b (h a ha) (h b hb) hne
theorem part_end {w wr w' : World} {B b : Nat} {D' : DataW Value} {V : List Int → Value} {g : List Int → List Int} {rs : List (List Int)} {v : Value} {P' : List (Value × List Int)} {left : Lit → Bool} (hB : B ≤ w.heap.size) (h2 : B ≤ b)
    (h5 : ∀ r r', R5 r → R5 r' → r ≠ r' → ∀ k, (V r).ownBlock = some k → (V r').ownBlock ≠ some k)
    (hD : ∀ x, R5 x → Maps.has D' (klR x) = decide (2 ≤ (g x).length) ∧ (Maps.has D' (klR x) = true → ∀ zd, D'.atKey (klR x) zd = .held (V x))) (hPB : PhB D' left rs) (hl : ∀ kl, left kl = false) (hgr : w.grownBy wr (some b))
    (hp : P'.Perm (prs V g rs)) (ho : OrdV P') (hown : w'.ownsRow w.heap.size 46 1 v P'.length (P'.map (·.1))) (hP : ∀ p ∈ P', OwnI w' B p.1 p.2 ∧ (∀ k, p.1.ownBlock = some k → k < w.heap.size)) (hb : Below w.heap.size wr w') : RetP B g w (.returned v) w' := by
  have hw' := hgr.size
  have hw2 := hb.size
  have hbb := hPB.2.1
  refine ⟨v, P'.map (·.2), rs, rfl, OwnSS.ofP (ownsRow_down hown hB) (fun k hk => (World.ownsRow.lt hown k hk).2) (fun p hpm => ⟨(hP p hpm).1, fun k hk => by have := (hP p hpm).2 k hk; omega⟩) ?_, ?_, ?_, hPB.1, fun x hx => (hbb x hx).1, fun x hx => ?_, ?_⟩
  · exact (hp.pairwise_iff (fun {x y} h k hx hy => h k hy hx)).2 (prs_apart h5 hPB.1 (fun x hx => (hbb x hx).1))
  · rw [← prs_snd V g rs]; exact hp.map _
  · rw [List.pairwise_map]; exact ho
  · rw [hPB.stop hl x hx, (hD x hx).1, decide_eq_true_eq]
  · exact ((Below.refl B w).grown hgr hB (fun j hj => by cases hj; exact h2)).trans (hb.mono hB)
set_option maxRecDepth 20000 in
set_option maxHeartbeats 3200000 in
theorem partition_any (B b n : Nat) (g : List Int → List Int) (w : World) (h : Grp w B b n g) (hn : n ≤ 1048576) (hl : ∀ r, (g r).length ≤ 1048576) (hB : B ≤ w.heap.size) :
    Calls Try.prog 38 #[.map (some b)] w (RetP B g w) := by
  obtain ⟨D, V, h1, h2, h3, h4, h5⟩ := h
  have hown : MapS w b n D := toS h1 fun r hr v hv => by
    have e := (h3 r hr).1
    rw [hv] at e; cases e
    obtain ⟨a, c, e⟩ := own_sliceP (h3 r hr).2
    exact ⟨a, _, c, e⟩
  have hp0 := PhA.start (g := g) h1 (fun r hr => (h3 r hr).1)
  have hbw := World.ownsMap.lt h1
  obtain ⟨j0, hj, hy0, hy1, hy2⟩ := info_parts infoSj
  have HJ : Hid (_ ∧ _ ∧ _ ∧ _) := Lib.hid ⟨hj, hy0, hy1, hy2⟩
  clear hj hy0 hy1 hy2
  have H1 := Lib.hid h1
  have H3 := Lib.hid h3
  have H4 := Lib.hid h4
  have H5 := Lib.hid h5
  have HL := Lib.hid hl
  clear h1 h3 h4 h5 hl
  go_enter Try.func38, Try.ntmps38
  go_wp2_with (first
    | (at_range; refine wpList_range_own _ rfl _ 50 rfl 55 46 keyR Try.underlying50 tokS b n D rfl hown ?_; intro w0 hrg0 hg0 hs0))
  go_frame
  go_loopw [] (fun wr => ∃ left cnt D', wr.ranges Try.prog 55 tokS b w.heap.size n D' left cnt ∧ Hid (PhA D D' V g left) ∧ w.grownBy wr (some b) ∧ Hid (∀ y, R5 y → left (klR y) = true → Maps.has D (klR y) = true)) (fun wr => wr.rangeLeft b w.heap.size)
  case atStart => exact ⟨_, _, D, hrg0, Lib.hid hp0, hg0.but _, Lib.hid (fun y _ h => h)⟩
  case round =>
    clear hrg0 hg0 hs0 hp0 hown
    obtain ⟨left, cnt, D', hrg, HP, hgr, HLE⟩ := hrel
    obtain ⟨w9, hw9⟩ : ∃ w', w' = wr := ⟨_, rfl⟩
    rw [← hw9] at hrg hgr ⊢
    clear hw9
    have hr9 := hrg.lt
    go_wp2_with (first | (at_next; refine mapS_next _ rfl _ rfl b w.heap.size n D' left cnt rfl hrg ?_ ?_))
    · intro hc0 hl0
      have HD := Lib.hid (HP.out.stop hl0 H4.out)
      have hown2 := hrg.owns
      have HGR := Lib.hid hgr
      have hsz2 := hgr.size
      have hsd := hown2.size_le
      clear hrg hgr HP HLE hl0 hc0
      go_wp2_with (first
        | (at_len; refine wpList_len_own _ rfl _ 50 rfl 55 46 Try.underlying50 tokS b n D' rfl hown2 ?_)
        | (at_make; refine wpList_make_own _ rfl _ _ 22 rfl w.heap.size 46 j0 (.slice none 0 0) 1 Try.underlying22 HJ.out.1 HJ.out.2.1 HJ.out.2.2.1 .i64 .i64 _ (Maps.size D') rfl rfl rfl (by rw [HJ.out.2.2.2]; omega) (by unfold maxLen; omega) hsz2 ?_
           intro w3 hown3 hgr3
           have hown4 := hown2.kept hgr3 (by simp))
        | (at_range; refine wpList_range_own _ rfl _ 50 rfl 55 46 keyR Try.underlying50 tokS b n D' rfl hown4 ?_; intro w4 hrg4 hg4 hs4))
      go_frame
      have HGR4 := Lib.hid ((HGR.out.andThen hgr3 (fun j hj => by cases hj)).andThen hg4 (fun j hj => by cases hj))
      have HO4 := Lib.hid (World.ownsRow.kept hown3 hg4 (.inr (fun e => by cases e)))
      have hw93 := hgr3.size
      clear hown2 hown4 hgr3 hown3 hg4
      go_loopw [5] (fun cv wr => ∃ left cnt rs, wr.ranges Try.prog 55 tokS b w3.heap.size n D' left cnt ∧ Hid (PhB D' left rs) ∧ Hid (wr.ownsRow w.heap.size 46 1 cv rs.length (rs.map V)) ∧ Hid (w.grownBy wr (some b)) ∧ rs.length + cnt ≤ 1048576) (fun _ wr => wr.rangeLeft b w3.heap.size)
      case atStart => exact ⟨_, _, [], hrg4, Lib.hid (PhB.start D'), HO4, HGR4, by simp; omega⟩
      case round =>
        clear hrg4 hs4 HGR4 HO4
        obtain ⟨left, cnt, rs, hrg, HPB, HO, HGR, hrc⟩ := hrel
        obtain ⟨w5, hw5⟩ : ∃ w', w' = wr := ⟨_, rfl⟩
        rw [← hw5] at hrg HO HGR ⊢
        clear hw5
        have h5s := hrg.lt
        have hww := HGR.out.size
        obtain ⟨cv, hcv⟩ : ∃ cv, cv = u5 := ⟨_, rfl⟩
        rw [← hcv] at HO ⊢
        clear hcv
        go_wp2_with (first | (at_next; refine mapS_next _ rfl _ rfl b w3.heap.size n D' left cnt rfl hrg ?_ ?_))
        · intro hc0 hl0
          have hown5 : w5.ownsRow w.heap.size 46 1 cv (prs V g rs).length ((prs V g rs).map (·.1)) := by rw [prs_fst, show (prs V g rs).length = rs.length by simp [prs]]; exact HO.out
          have HS := Lib.hid (sortOwn_any B w.heap.size cv (prs V g rs) w5 hown5 (fun p hp => by
            unfold prs at hp
            obtain ⟨x, hx, rfl⟩ := List.mem_map.1 hp
            have hx5 := (HPB.out.2.1 x hx).1
            have ho := (H3.out x hx5).2
            exact ⟨OwnI.keptBy ho HGR.out (fun k hk => by cases hk; exact map_apart H1.out ho), fun k hk => (ho.lt k hk).2, HL.out x⟩) (by simp [prs]; omega))
          have HL0 := Lib.hid hl0
          clear hown5 hl0 hrg
          go_wp2_with fail
          refine HS.out.mono ?_
          rintro e w6 ⟨rfl, P', hp, ho, hown6, hP6, hb6⟩
          have HE := Lib.hid (part_end hB h2 H5.out HD.out HPB.out HL0.out HGR.out hp ho hown6 hP6 hb6)
          clear hp ho hown6 hP6 hb6
          go_wp2_with fail
          go_ret
          exact HE.out
        · intro a0 a1 a2 a3 a4 ad m c w1 cnt1 hR hleft hat hrg1 hlt hg1 hs1 hen
          have hPB := HPB.out.step hR hleft
          have hhas : Maps.has D' (klR [a0, a1, a2, a3, a4]) = true := (hPB.2.1 _ (by simp)).2
          have hV : V [a0, a1, a2, a3, a4] = .slice ad m c := by
            have e := (HD.out _ hR).2 hhas (.held nilS)
            rw [hat] at e
            exact (DataW.held.inj e).symm
          have HPB2 := Lib.hid hPB
          have HRG := Lib.hid hrg
          obtain ⟨ia, ib⟩ := iter_apart hrg HO.out
          have hcn : cv.ownBlock ≠ some w3.heap.size := fun e => ib e.symm
          have ho1 := World.ownsRow.kept HO.out hg1 (.inr hcn)
          have HO1 := Lib.hid ho1
          obtain ⟨ja, jb⟩ := iter_apart hrg1 ho1
          have HJA := Lib.hid ja
          have HJB := Lib.hid jb
          have hgr1 := HGR.out.andThen hg1 (fun j hj => by cases hj; exact .inl (by omega))
          have HG1 := Lib.hid (hgr1.andThen (World.grownBy_alloc w1 (.cells #[.slice ad m c] 46) none) (fun j hj => by cases hj))
          have HR1 := Lib.hid (hrg1.alloc (.cells #[.slice ad m c] 46))
          have HE := Lib.hid (show rs.map V ++ [.slice ad m c] = (rs ++ [[a0, a1, a2, a3, a4]]).map V by rw [List.map_append, List.map_singleton, hV])
          have hcB : ∀ j, cv.ownBlock = some j → w.heap.size ≤ j := fun j hj => (World.ownsRow.lt ho1 j hj).1
          have hws1 : w.heap.size ≤ w1.heap.size := by omega
          clear hat hhas hV hPB hrg ia ib hcn ho1 ja jb hgr1 hrg1 hg1 HPB HO HGR hs1
          go_wp2_with (at_builtin; refine wpList_append_own _ rfl _ _ 22 rfl w.heap.size 46 j0 (.slice none 0 0) 1 24 Try.underlying22 HJ.out.1 HJ.out.2.1 HJ.out.2.2.1 HJ.out.2.2.2 rfl (by decide) _ _ _ rfl (World.ownsRow.alloc HO1.out _) ⟨w1.heap.size, 0, none⟩ 1 1 [.slice ad m c] rfl rfl (cell_one_new _ _ _) (by intro u hu; simp at hu; subst hu; rfl) (by unfold maxLen; omega) (by omega) (by simp; omega) ?_; intro v' w6 hown6 hgr6 _)
          go_roundw
          case rel => exact ⟨_, cnt1, rs ++ [[a0, a1, a2, a3, a4]], HR1.out.kept hgr6 HJA.out HJB.out, HPB2, Lib.hid (by rw [List.length_append, List.length_singleton, ← HE.out]; exact hown6), Lib.hid (HG1.out.andThen hgr6 (fun j hj => .inl (hcB j hj))), by simp; omega⟩
          case measure => rw [(HR1.out.kept hgr6 HJA.out HJB.out).left_eq, HRG.out.left_eq]; omega
    · intro a0 a1 a2 a3 a4 ad m c w1 cnt1 hR hleft hat hrg1 hlt hg1 hs1 hen
      obtain ⟨hv, ho⟩ := HP.out.come H1.out hgr hR (H3.out _ hR).2 HLE.out hleft hat
      have hm : m = (g [a0, a1, a2, a3, a4]).length := by
        obtain ⟨a', c', e⟩ := own_sliceP ho
        cases e; rfl
      have hgr1 : w.grownBy (w1.alloc (.cells #[.int .i64 a0, .int .i64 a1, .int .i64 a2, .int .i64 a3, .int .i64 a4] 55)) (some b) := (hgr.andThen hg1 (fun j hj => by cases hj; exact .inl (Nat.le_refl _))).andThen (World.grownBy_alloc w1 _ none) (fun j hj => by cases hj)
      have hrg2 := hrg1.alloc (.cells #[.int .i64 a0, .int .i64 a1, .int .i64 a2, .int .i64 a3, .int .i64 a4] 55)
      have hll := HL.out [a0, a1, a2, a3, a4]
      by_cases hs : (g [a0, a1, a2, a3, a4]).length < 2
      · have HD := Lib.hid (HP.out.drop hR hs)
        have HK := Lib.hid (keyOf_klR hR)
        have hm2 : (m : Int) < 2 := by omega
        have HRG := Lib.hid hrg
        clear hat ho hv hrg1 hm hs hll hrg
        go_wp2_with (first | (at_delete; refine wpList_delete_ranges _ rfl _ _ 50 55 rfl 46 keyR Try.underlying50 tokS b w.heap.size n D' _ cnt1 rfl hrg2 _ _ rfl HK.out ?_; intro w2 cnt2 hrg3 hle hturn))
        go_roundw
        case rel => exact ⟨_, _, _, _, _, _, _, _, _, _, _, _, ⟨_, cnt2, _, by rw [Maps.strike_twice] at hrg3; exact hrg3, Lib.hid HD.out, hgr1.andThen hturn.grown (fun j hj => by cases hj; exact .inr rfl), Lib.hid (fun y hy hly => HLE.out y hy (by simp at hly; exact hly.1))⟩, rfl⟩
        case measure => rw [hrg3.left_eq, HRG.out.left_eq]; omega
      · have HD := Lib.hid (HP.out.keep hR (by omega))
        have hm2 : ¬ (m : Int) < 2 := by omega
        have HRG := Lib.hid hrg
        clear hat ho hv hrg1 hm hs hll hrg
        go_wp2_with fail
        go_roundw
        case rel => exact ⟨_, cnt1, _, hrg2, Lib.hid HD.out, hgr1, Lib.hid (fun y hy hly => HLE.out y hy (by simp at hly; exact hly.1))⟩
        case measure => rw [hrg2.left_eq, HRG.out.left_eq]; omega
end Go.Proofs.Ytkaalgbcdcbgoaa
