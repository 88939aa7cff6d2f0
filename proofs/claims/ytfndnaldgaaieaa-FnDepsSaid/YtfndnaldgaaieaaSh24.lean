/- Texts of this claim, merged: DepF, PmG, ImA. Conditions: as stated. -/
import Derived.Test.YtfndnaldgaaieaaSh15
import Derived.Test.YtfndnaldgaaieaaDepDm
import Derived.Test.YtfndnaldgaaieaaSh5
import Derived.Test.YtfndnaldgaaieaaSh7
namespace Go.Proofs.Ytfndnaldgaaieaa
open Go.RowKit

theorem least_tx (s : ByteArray) : ∀ n, (∃ i, i < n ∧ isTx s i = true) → ∃ a, a < n ∧ isTx s a = true ∧ ∀ b, b < a → isTx s b = false
  | 0, ⟨i, h, _⟩ => absurd h (Nat.not_lt_zero _)
  | n + 1, ⟨i, h, hi⟩ => by
    by_cases hx : ∃ j, j < n ∧ isTx s j = true
    · obtain ⟨a, h1, h2⟩ := least_tx s n hx
      exact ⟨a, by omega, h2⟩
    · have : i = n := by
        by_cases e : i = n
        · exact e
        · exact (hx ⟨i, by omega, hi⟩).elim
      subst this
      exact ⟨i, h, hi, fun b hb => by
        cases hp : isTx s b with
        | false => rfl
        | true => exact (hx ⟨b, hb, hp⟩).elim⟩
theorem PaA.ex (s : ByteArray) : ∃ p : Int × Bool, PaA s p.1 p.2 := by
  by_cases h : ∃ i, i < 32 ∧ isTx s i = true
  · obtain ⟨a, h1, h2, h3⟩ := least_tx s 32 h
    exact ⟨((a : Int), true), .inl ⟨a, h1, rfl, h2, h3, rfl⟩⟩
  · refine ⟨(0, false), .inr ⟨fun j hj => ?_, rfl, rfl⟩⟩
    cases hp : isTx s j with
    | false => rfl
    | true => exact (h ⟨j, hj, hp⟩).elim
/-- What ParseAttributes answers. -/
noncomputable def paA (s : ByteArray) : Int × Bool := Classical.choose (PaA.ex s)
theorem paA_is (s : ByteArray) : PaA s (paA s).1 (paA s).2 := Classical.choose_spec (PaA.ex s)
theorem paA_eq {s : ByteArray} {x : Int} {ok : Bool} (h : PaA s x ok) : x = (paA s).1 ∧ ok = (paA s).2 := h.unique (paA_is s)
theorem parseF_any (s : ByteArray) (w : World) :
    Calls Try.prog 40 #[.string s] w fun e w' => e = .returned (.tuple #[.int .i64 (paA s).1, .bool (paA s).2]) ∧ Below w.heap.size w w' := by
  refine (parseS_any s w).mono ?_
  rintro e w' ⟨x, ok, h, rfl, hb⟩
  obtain ⟨rfl, rfl⟩ := paA_eq h
  exact ⟨rfl, hb⟩
/-- A result's two cells, stored anew. -/
theorem res2 {w : World} {b : Nat} {a0 a1 : Value} (u0 u1 : Value) (h0 : w.cell? ⟨b, 0, none⟩ = some a0) (h1 : w.cell? ⟨b, 1, none⟩ = some a1) : ((w.setCell ⟨b, 0, none⟩ u0).setCell ⟨b, 1, none⟩ u1).cell? ⟨b, 0, none⟩ = some u0 ∧ ((w.setCell ⟨b, 0, none⟩ u0).setCell ⟨b, 1, none⟩ u1).cell? ⟨b, 1, none⟩ = some u1 := by
  have g1 : (w.setCell ⟨b, 0, none⟩ u0).cell? ⟨b, 1, none⟩ = some a1 := (World.cell?_setCell_other _ _ _ _ (by intro e; simp at e)).trans h1
  exact ⟨(World.cell?_setCell_other _ _ _ _ (by intro e; simp at e)).trans (World.cell?_setCell_same _ _ _ h0), World.cell?_setCell_same _ _ _ g1⟩
theorem fz2 {w wr : World} {a b : Value} {T : TypeId} (hb : Below (w.alloc (.cells #[a, b] T)).heap.size (w.alloc (.cells #[a, b] T)) wr) : wr.frozen? ⟨w.heap.size, 0, none⟩ = false ∧ wr.frozen? ⟨w.heap.size, 1, none⟩ = false :=
  ⟨(hb.frozen (p := ⟨w.heap.size, 0, none⟩) (by simp)).trans (World.frozen?_alloc_new _ _ _ _), (hb.frozen (p := ⟨w.heap.size, 1, none⟩) (by simp)).trans (World.frozen?_alloc_new _ _ _ _)⟩
/-- A row of two strings. -/
theorem two_str {w : World} {B : Nat} {v : Value} {p q : List UInt8} (h : OwnZ w B v [p, q]) : ∃ g cap, v = .slice (some ⟨g, 0, none⟩) 2 cap ∧ w.cell? ⟨g, 0, none⟩ = some (.string ⟨p.toArray⟩) ∧ w.cell? ⟨g, 1, none⟩ = some (.string ⟨q.toArray⟩) := by
  rcases ownsRow_shape h with ⟨rfl, hn⟩ | ⟨g, cap, rfl, -, -, -⟩
  · simp at hn
  · exact ⟨g, cap, rfl, World.ownsRow.cellAt h 0 (by simp), World.ownsRow.cellAt h 1 (by simp)⟩
def strB (l : List UInt8) : ByteArray := ⟨l.toArray⟩
/-- The two sides of a dependency's text. -/
noncomputable def sideL (s : ByteArray) : Int × Bool := paA (strB ((cutL 62 s.data.toList).getD 0 []))
noncomputable def sideR (s : ByteArray) : Int × Bool := paA (strB ((cutL 62 s.data.toList).getD 1 []))
noncomputable def okP (n : Int) (s : ByteArray) : Bool := decide ((cutL 62 s.data.toList).length = 2) && ((sideL s).2 && ((sideR s).2 && (decide (cnt (sideR s).1 = 1) && depB n (sideL s).1 ((mems (sideR s).1).getD 0 0))))
noncomputable def pdL (n : Int) (s : ByteArray) : Int := if okP n s = true then (sideL s).1 else 0
noncomputable def pdR (n : Int) (s : ByteArray) : Int := if okP n s = true then (mems (sideR s).1).getD 0 0 else 0
section
set_option maxRecDepth 20000
set_option maxHeartbeats 1600000
theorem parseDep_any (n : Int) (s : ByteArray) (w : World) (hs : s.size ≤ 1048576) :
    Calls Try.prog 18 #[.int .i64 n, .string s] w fun e w' => e = .returned (.tuple #[.agg #[.int .i64 (pdL n s), .int .i64 (pdR n s)], .bool (okP n s)]) ∧ Below w.heap.size w w' := by
  have HC := Lib.hid (fun w' => l2Cut_any s 62 w' hs)
  rw [show ((UInt8.toNat 62 : Nat) : Int) = 62 from rfl] at HC
  have hb1 := (Below.refl w.heap.size w).alloc (Nat.le_refl _) (.cells #[.int .i64 0, .int .i64 0] 28)
  have HBX := Lib.hid (fun w' (hb : Below (w.alloc (.cells #[.int .i64 0, .int .i64 0] 28)).heap.size (w.alloc (.cells #[.int .i64 0, .int .i64 0] 28)) w') => And.intro (hb1.trans (hb.mono hb1.size)) (box2 hb))
  have HRF := Lib.hid (Below.refl (w.alloc (.cells #[.int .i64 0, .int .i64 0] 28)).heap.size (w.alloc (.cells #[.int .i64 0, .int .i64 0] 28)))
  clear hb1
  by_cases hlen : (cutL 62 s.data.toList).length = 2
  · obtain ⟨p, q, hpq⟩ : ∃ p q, cutL 62 s.data.toList = [p, q] := by
      match h : cutL 62 s.data.toList, hlen with
      | [p, q], _ => exact ⟨p, q, rfl⟩
    have hL : sideL s = paA (strB p) := by unfold sideL; rw [hpq]; rfl
    have hR : sideR s = paA (strB q) := by unfold sideR; rw [hpq]; rfl
    have HX := Lib.hid (parseF_any (strB p))
    have HY := Lib.hid (parseF_any (strB q))
    have hok : okP n s = ((paA (strB p)).2 && ((paA (strB q)).2 && (decide (cnt (paA (strB q)).1 = 1) && depB n (paA (strB p)).1 ((mems (paA (strB q)).1).getD 0 0)))) := by
      unfold okP; rw [hlen, hL, hR]; simp
    have hl : pdL n s = if okP n s = true then (paA (strB p)).1 else 0 := by unfold pdL; rw [hL]
    have hr : pdR n s = if okP n s = true then (mems (paA (strB q)).1).getD 0 0 else 0 := by unfold pdR; rw [hR]
    rw [hpq] at HC
    obtain ⟨⟨x, one⟩, hx⟩ : ∃ z, z = paA (strB p) := ⟨_, rfl⟩
    obtain ⟨⟨y, two⟩, hy⟩ : ∃ z, z = paA (strB q) := ⟨_, rfl⟩
    rw [← hx] at HX hok hl
    rw [← hy] at HY hok hr
    simp only at HX HY hok hl hr
    have HCT := Lib.hid (countS_any y)
    have HME := Lib.hid (membersS_any y)
    clear hlen hpq hL hR hx hy
    cases one with
    | false =>
      have HE : Hid (okP n s = false ∧ pdL n s = 0 ∧ pdR n s = 0) := Lib.hid (by rw [hl, hr, hok]; exact ⟨rfl, rfl, rfl⟩)
      clear hok hl hr
      go_enter Try.func18, Try.ntmps18
      go_wp2_with fail
      refine (HC.out _).mono ?_
      rintro e w1 ⟨v1, rfl, ho1, b1⟩
      have kb := HRF.out.trans (b1.mono HRF.out.size)
      obtain ⟨hb1, c0, c1⟩ := HBX.out _ kb
      obtain ⟨g, cap1, rfl, hy0, hy1⟩ := two_str ho1
      clear b1 ho1
      go_wp2_with fail
      refine (HX.out _).mono ?_
      rintro e w2 ⟨rfl, b2⟩
      replace hy0 := cell_on hy0 b2
      replace hy1 := cell_on hy1 b2
      replace kb := kb.trans (b2.mono kb.size)
      clear c0 c1 hb1 b2
      obtain ⟨hb1, c0, c1⟩ := HBX.out _ kb
      go_wp2_with fail
      refine (HY.out _).mono ?_
      rintro e w3 ⟨rfl, b3⟩
      replace kb := kb.trans (b3.mono kb.size)
      clear c0 c1 hb1 b3 hy0 hy1
      obtain ⟨hb1, c0, c1⟩ := HBX.out _ kb
      obtain ⟨f0, f1⟩ := fz2 kb
      obtain ⟨r0, r1⟩ := res2 (.int .i64 0) (.int .i64 0) c0 c1
      have hbe := (hb1.setCell (p := ⟨w.heap.size, 0, none⟩) (Nat.le_refl _) (.int .i64 0)).setCell (p := ⟨w.heap.size, 1, none⟩) (Nat.le_refl _) (.int .i64 0)
      go_wp2_with fail
      exact bodyPost_ret (v := .tuple #[.agg #[.int .i64 0, .int .i64 0], .bool false]) (by simp [results, Try.results18, go_sem, r0, r1]) rfl ⟨by rw [HE.out.1, HE.out.2.1, HE.out.2.2], hbe⟩
    | true =>
      cases two with
      | false =>
        have HE : Hid (okP n s = false ∧ pdL n s = 0 ∧ pdR n s = 0) := Lib.hid (by rw [hl, hr, hok]; exact ⟨rfl, rfl, rfl⟩)
        clear hok hl hr
        go_enter Try.func18, Try.ntmps18
        go_wp2_with fail
        refine (HC.out _).mono ?_
        rintro e w1 ⟨v1, rfl, ho1, b1⟩
        have kb := HRF.out.trans (b1.mono HRF.out.size)
        obtain ⟨hb1, c0, c1⟩ := HBX.out _ kb
        obtain ⟨g, cap1, rfl, hy0, hy1⟩ := two_str ho1
        clear b1 ho1
        go_wp2_with fail
        refine (HX.out _).mono ?_
        rintro e w2 ⟨rfl, b2⟩
        replace hy0 := cell_on hy0 b2
        replace hy1 := cell_on hy1 b2
        replace kb := kb.trans (b2.mono kb.size)
        clear c0 c1 hb1 b2
        obtain ⟨hb1, c0, c1⟩ := HBX.out _ kb
        go_wp2_with fail
        refine (HY.out _).mono ?_
        rintro e w3 ⟨rfl, b3⟩
        replace kb := kb.trans (b3.mono kb.size)
        clear c0 c1 hb1 b3 hy0 hy1
        obtain ⟨hb1, c0, c1⟩ := HBX.out _ kb
        obtain ⟨f0, f1⟩ := fz2 kb
        obtain ⟨r0, r1⟩ := res2 (.int .i64 0) (.int .i64 0) c0 c1
        have hbe := (hb1.setCell (p := ⟨w.heap.size, 0, none⟩) (Nat.le_refl _) (.int .i64 0)).setCell (p := ⟨w.heap.size, 1, none⟩) (Nat.le_refl _) (.int .i64 0)
        go_wp2_with fail
        exact bodyPost_ret (v := .tuple #[.agg #[.int .i64 0, .int .i64 0], .bool false]) (by simp [results, Try.results18, go_sem, r0, r1]) rfl ⟨by rw [HE.out.1, HE.out.2.1, HE.out.2.2], hbe⟩
      | true =>
        by_cases hcn : cnt y = 1
        · obtain ⟨z, hz⟩ : ∃ z, mems y = [z] := by
            unfold cnt at hcn
            match h : mems y, hcn with
            | [z], _ => exact ⟨z, rfl⟩
          rw [hcn] at HCT
          rw [hz] at HME hok hr
          rw [show ([z] : List Int).getD 0 0 = z from rfl] at hok hr
          have hdc : decide (cnt y = 1) = true := decide_eq_true hcn
          rw [hdc] at hok
          have HDP := Lib.hid (isDep_any n x z)
          clear hdc hcn hz
          cases hdp : depB n x z with
          | false =>
            rw [hdp] at hok HDP
            have HE : Hid (okP n s = false ∧ pdL n s = 0 ∧ pdR n s = 0) := Lib.hid (by rw [hl, hr, hok]; exact ⟨rfl, rfl, rfl⟩)
            clear hok hl hr
            clear hdp
            go_enter Try.func18, Try.ntmps18
            go_wp2_with fail
            refine (HC.out _).mono ?_
            rintro e w1 ⟨v1, rfl, ho1, b1⟩
            have kb := HRF.out.trans (b1.mono HRF.out.size)
            obtain ⟨hb1, c0, c1⟩ := HBX.out _ kb
            obtain ⟨g, cap1, rfl, hy0, hy1⟩ := two_str ho1
            clear b1 ho1
            go_wp2_with fail
            refine (HX.out _).mono ?_
            rintro e w2 ⟨rfl, b2⟩
            replace hy0 := cell_on hy0 b2
            replace hy1 := cell_on hy1 b2
            replace kb := kb.trans (b2.mono kb.size)
            clear c0 c1 hb1 b2
            obtain ⟨hb1, c0, c1⟩ := HBX.out _ kb
            go_wp2_with fail
            refine (HY.out _).mono ?_
            rintro e w3 ⟨rfl, b3⟩
            replace kb := kb.trans (b3.mono kb.size)
            clear c0 c1 hb1 b3 hy0 hy1
            obtain ⟨hb1, c0, c1⟩ := HBX.out _ kb
            obtain ⟨f0, f1⟩ := fz2 kb
            go_wp2_with fail
            refine (HCT.out _).mono ?_
            rintro e w4 ⟨rfl, b4⟩
            replace kb := kb.trans (b4.mono kb.size)
            clear c0 c1 hb1 f0 f1
            obtain ⟨hb1, c0, c1⟩ := HBX.out _ kb
            obtain ⟨f0, f1⟩ := fz2 kb
            clear b4
            go_wp2_with fail
            refine (HME.out _).mono ?_
            rintro e w4 ⟨vm, rfl, hom, b4⟩
            replace kb := kb.trans (b4.mono kb.size)
            clear c0 c1 hb1 f0 f1
            obtain ⟨hb1, c0, c1⟩ := HBX.out _ kb
            obtain ⟨f0, f1⟩ := fz2 kb
            obtain ⟨am, capm, rfl, hrm⟩ := hom.read
            obtain ⟨xm, rfl, hym⟩ := hrm 0 (by simp)
            have hym : w4.cell? xm = some (.int .i64 z) := by have := hym; rw [Addr.add_zero'] at this; exact this
            clear hom hrm
            clear b4
            have bD := (Below.refl w4.heap.size w4).alloc (Nat.le_refl _) (.cells #[.int .i64 x, .int .i64 z] 28)
            have HDB := Lib.hid (fun w' (hb : Below (w4.alloc (.cells #[.int .i64 x, .int .i64 z] 28)).heap.size (w4.alloc (.cells #[.int .i64 x, .int .i64 z] 28)) w') => box2 hb)
            replace kb := kb.trans (bD.mono kb.size)
            clear c0 c1 hb1 f0 f1 bD
            obtain ⟨hb1, c0, c1⟩ := HBX.out _ kb
            obtain ⟨f0, f1⟩ := fz2 kb
            go_wp2_with fail
            refine (HDP.out _).mono ?_
            rintro e w5 ⟨rfl, b4⟩
            replace kb := kb.trans (b4.mono kb.size)
            clear c0 c1 hb1 f0 f1
            obtain ⟨hb1, c0, c1⟩ := HBX.out _ kb
            obtain ⟨f0, f1⟩ := fz2 kb
            obtain ⟨e0, e1⟩ := HDB.out _ b4
            clear b4
            obtain ⟨r0, r1⟩ := res2 (.int .i64 0) (.int .i64 0) c0 c1
            have hbe := (hb1.setCell (p := ⟨w.heap.size, 0, none⟩) (Nat.le_refl _) (.int .i64 0)).setCell (p := ⟨w.heap.size, 1, none⟩) (Nat.le_refl _) (.int .i64 0)
            go_wp2_with fail
            exact bodyPost_ret (v := .tuple #[.agg #[.int .i64 0, .int .i64 0], .bool false]) (by simp [results, Try.results18, go_sem, r0, r1]) rfl ⟨by rw [HE.out.1, HE.out.2.1, HE.out.2.2], hbe⟩
          | true =>
            rw [hdp] at hok HDP
            have HE : Hid (okP n s = true ∧ pdL n s = x ∧ pdR n s = z) := Lib.hid (by rw [hl, hr, hok]; exact ⟨rfl, rfl, rfl⟩)
            clear hok hl hr hdp
            go_enter Try.func18, Try.ntmps18
            go_wp2_with fail
            refine (HC.out _).mono ?_
            rintro e w1 ⟨v1, rfl, ho1, b1⟩
            have kb := HRF.out.trans (b1.mono HRF.out.size)
            obtain ⟨hb1, c0, c1⟩ := HBX.out _ kb
            obtain ⟨g, cap1, rfl, hy0, hy1⟩ := two_str ho1
            clear b1 ho1
            go_wp2_with fail
            refine (HX.out _).mono ?_
            rintro e w2 ⟨rfl, b2⟩
            replace hy0 := cell_on hy0 b2
            replace hy1 := cell_on hy1 b2
            replace kb := kb.trans (b2.mono kb.size)
            clear c0 c1 hb1 b2
            obtain ⟨hb1, c0, c1⟩ := HBX.out _ kb
            go_wp2_with fail
            refine (HY.out _).mono ?_
            rintro e w3 ⟨rfl, b3⟩
            replace kb := kb.trans (b3.mono kb.size)
            clear c0 c1 hb1 b3 hy0 hy1
            obtain ⟨hb1, c0, c1⟩ := HBX.out _ kb
            obtain ⟨f0, f1⟩ := fz2 kb
            go_wp2_with fail
            refine (HCT.out _).mono ?_
            rintro e w4 ⟨rfl, b4⟩
            replace kb := kb.trans (b4.mono kb.size)
            clear c0 c1 hb1 f0 f1
            obtain ⟨hb1, c0, c1⟩ := HBX.out _ kb
            obtain ⟨f0, f1⟩ := fz2 kb
            clear b4
            go_wp2_with fail
            refine (HME.out _).mono ?_
            rintro e w4 ⟨vm, rfl, hom, b4⟩
            replace kb := kb.trans (b4.mono kb.size)
            clear c0 c1 hb1 f0 f1
            obtain ⟨hb1, c0, c1⟩ := HBX.out _ kb
            obtain ⟨f0, f1⟩ := fz2 kb
            obtain ⟨am, capm, rfl, hrm⟩ := hom.read
            obtain ⟨xm, rfl, hym⟩ := hrm 0 (by simp)
            have hym : w4.cell? xm = some (.int .i64 z) := by have := hym; rw [Addr.add_zero'] at this; exact this
            clear hom hrm
            clear b4
            have bD := (Below.refl w4.heap.size w4).alloc (Nat.le_refl _) (.cells #[.int .i64 x, .int .i64 z] 28)
            have HDB := Lib.hid (fun w' (hb : Below (w4.alloc (.cells #[.int .i64 x, .int .i64 z] 28)).heap.size (w4.alloc (.cells #[.int .i64 x, .int .i64 z] 28)) w') => box2 hb)
            replace kb := kb.trans (bD.mono kb.size)
            clear c0 c1 hb1 f0 f1 bD
            obtain ⟨hb1, c0, c1⟩ := HBX.out _ kb
            obtain ⟨f0, f1⟩ := fz2 kb
            go_wp2_with fail
            refine (HDP.out _).mono ?_
            rintro e w5 ⟨rfl, b4⟩
            replace kb := kb.trans (b4.mono kb.size)
            clear c0 c1 hb1 f0 f1
            obtain ⟨hb1, c0, c1⟩ := HBX.out _ kb
            obtain ⟨f0, f1⟩ := fz2 kb
            obtain ⟨e0, e1⟩ := HDB.out _ b4
            clear b4
            obtain ⟨r0, r1⟩ := res2 (.int .i64 x) (.int .i64 z) c0 c1
            have hbe := (hb1.setCell (p := ⟨w.heap.size, 0, none⟩) (Nat.le_refl _) (.int .i64 x)).setCell (p := ⟨w.heap.size, 1, none⟩) (Nat.le_refl _) (.int .i64 z)
            go_wp2_with fail
            exact bodyPost_ret (v := .tuple #[.agg #[.int .i64 x, .int .i64 z], .bool true]) (by simp [results, Try.results18, go_sem, r0, r1]) rfl ⟨by rw [HE.out.1, HE.out.2.1, HE.out.2.2], hbe⟩
        · have hdc : decide (cnt y = 1) = false := decide_eq_false hcn
          have hne : ((cnt y : Int) != 1) = true := by rw [bne_iff_ne]; omega
          have HE : Hid (okP n s = false ∧ pdL n s = 0 ∧ pdR n s = 0) := Lib.hid (by rw [hl, hr, hok, hdc]; exact ⟨rfl, rfl, rfl⟩)
          clear hok hl hr
          clear hdc hcn
          go_enter Try.func18, Try.ntmps18
          go_wp2_with fail
          refine (HC.out _).mono ?_
          rintro e w1 ⟨v1, rfl, ho1, b1⟩
          have kb := HRF.out.trans (b1.mono HRF.out.size)
          obtain ⟨hb1, c0, c1⟩ := HBX.out _ kb
          obtain ⟨g, cap1, rfl, hy0, hy1⟩ := two_str ho1
          clear b1 ho1
          go_wp2_with fail
          refine (HX.out _).mono ?_
          rintro e w2 ⟨rfl, b2⟩
          replace hy0 := cell_on hy0 b2
          replace hy1 := cell_on hy1 b2
          replace kb := kb.trans (b2.mono kb.size)
          clear c0 c1 hb1 b2
          obtain ⟨hb1, c0, c1⟩ := HBX.out _ kb
          go_wp2_with fail
          refine (HY.out _).mono ?_
          rintro e w3 ⟨rfl, b3⟩
          replace kb := kb.trans (b3.mono kb.size)
          clear c0 c1 hb1 b3 hy0 hy1
          obtain ⟨hb1, c0, c1⟩ := HBX.out _ kb
          obtain ⟨f0, f1⟩ := fz2 kb
          go_wp2_with fail
          refine (HCT.out _).mono ?_
          rintro e w4 ⟨rfl, b4⟩
          replace kb := kb.trans (b4.mono kb.size)
          clear c0 c1 hb1 f0 f1
          obtain ⟨hb1, c0, c1⟩ := HBX.out _ kb
          obtain ⟨f0, f1⟩ := fz2 kb
          clear b4
          obtain ⟨r0, r1⟩ := res2 (.int .i64 0) (.int .i64 0) c0 c1
          have hbe := (hb1.setCell (p := ⟨w.heap.size, 0, none⟩) (Nat.le_refl _) (.int .i64 0)).setCell (p := ⟨w.heap.size, 1, none⟩) (Nat.le_refl _) (.int .i64 0)
          go_wp2_with fail
          exact bodyPost_ret (v := .tuple #[.agg #[.int .i64 0, .int .i64 0], .bool false]) (by simp [results, Try.results18, go_sem, r0, r1]) rfl ⟨by rw [HE.out.1, HE.out.2.1, HE.out.2.2], hbe⟩
  · have hne : (((cutL 62 s.data.toList).length : Int) != 2) = true := by rw [bne_iff_ne]; omega
    have hok : okP n s = false := by unfold okP; rw [decide_eq_false hlen]; rfl
    have HE : Hid (okP n s = false ∧ pdL n s = 0 ∧ pdR n s = 0) := Lib.hid (by unfold pdL pdR; rw [hok]; exact ⟨rfl, rfl, rfl⟩)
    obtain ⟨P, hP⟩ : ∃ P, P = cutL 62 s.data.toList := ⟨_, rfl⟩
    rw [← hP] at HC hne
    clear hok hlen hP
    go_enter Try.func18, Try.ntmps18
    go_wp2_with fail
    refine (HC.out _).mono ?_
    rintro e w1 ⟨v1, rfl, ho1, b1⟩
    have kb := HRF.out.trans (b1.mono HRF.out.size)
    obtain ⟨hb1, c0, c1⟩ := HBX.out _ kb
    obtain ⟨a1, cap1, rfl, -⟩ := ho1.read
    obtain ⟨f0, f1⟩ := fz2 kb
    clear b1 ho1
    obtain ⟨r0, r1⟩ := res2 (.int .i64 0) (.int .i64 0) c0 c1
    have hbe := (hb1.setCell (p := ⟨w.heap.size, 0, none⟩) (Nat.le_refl _) (.int .i64 0)).setCell (p := ⟨w.heap.size, 1, none⟩) (Nat.le_refl _) (.int .i64 0)
    go_wp2_with fail
    exact bodyPost_ret (v := .tuple #[.agg #[.int .i64 0, .int .i64 0], .bool false]) (by simp [results, Try.results18, go_sem, r0, r1]) rfl ⟨by rw [HE.out.1, HE.out.2.1, HE.out.2.2], hbe⟩
end
end Go.Proofs.Ytfndnaldgaaieaa
namespace Go.Proofs.Ytfndnaldgaaieaa
open Go.RowKit

theorem cut_head (b : UInt8) : ∀ (l p : List UInt8) (r : List (List UInt8)), cutL b l = p :: r → (r = [] ∧ l = p) ∨ ∃ l', l = p ++ b :: l' ∧ cutL b l' = r
  | [], p, r, h => by
    unfold cutL at h
    injection h with h1 h2
    exact .inl ⟨h2.symm, h1⟩
  | x :: t, p, r, h => by
    unfold cutL at h
    by_cases e : x = b
    · rw [if_pos e] at h
      injection h with h1 h2
      exact .inr ⟨t, by rw [← h1, e]; rfl, h2⟩
    · rw [if_neg e] at h
      cases hc : cutL b t with
      | nil => exact absurd hc (cutL_ne b t)
      | cons a u =>
        rw [hc] at h
        unfold glue at h
        injection h with h1 h2
        rcases cut_head b t a u hc with ⟨k1, k2⟩ | ⟨l', k1, k2⟩
        · exact .inl ⟨by rw [← h2, k1], by rw [← h1, k2]; rfl⟩
        · exact .inr ⟨l', by rw [← h1, k1]; rfl, by rw [← h2, k2]⟩
theorem cut_two (b : UInt8) (l : List UInt8) (h : (cutL b l).length = 2) : l = (cutL b l).getD 0 [] ++ b :: (cutL b l).getD 1 [] := by
  cases h0 : cutL b l with
  | nil => rw [h0] at h; simp at h
  | cons p r =>
    cases r with
    | nil => rw [h0] at h; simp at h
    | cons q u =>
      have hu : u = [] := by
        rw [h0] at h
        simp only [List.length_cons] at h
        exact List.length_eq_zero_iff.1 (by omega)
      subst hu
      rcases cut_head b l p [q] h0 with ⟨k, -⟩ | ⟨l', k1, k2⟩
      · exact absurd k (List.cons_ne_nil _ _)
      · rcases cut_head b l' q [] k2 with ⟨-, j⟩ | ⟨l2, -, j⟩
        · rw [k1, j]; rfl
        · exact absurd j (cutL_ne b l2)
theorem paA_text (s : ByteArray) (h : (paA s).2 = true) : (fmtA (paA s).1).data.toList = s.data.toList ∧ 0 ≤ (paA s).1 ∧ (paA s).1 ≤ 31 := by
  rcases paA_is s with ⟨X, h1, h2, h3, -, -⟩ | ⟨-, -, h3⟩
  · rw [isTx_eq] at h3
    rw [h2]
    exact ⟨eq_of_beq h3, by omega, by omega⟩
  · rw [h] at h3; cases h3
theorem pow_one : ∀ X : Fin 32, cnt ((X.val : Nat) : Int) = 1 → ((2 ^ ((mems ((X.val : Nat) : Int)).getD 0 0).toNat : Nat) : Int) = ((X.val : Nat) : Int) := by decide +kernel
theorem fmt_parse {n : Int} {s : ByteArray} (h : okP n s = true) : fmtD (pdL n s) (pdR n s) = s := by
  have hk := h
  unfold pdL pdR
  rw [if_pos hk, if_pos hk]
  unfold okP at h
  simp only [Bool.and_eq_true, decide_eq_true_iff] at h
  obtain ⟨h1, h2, h3, h4, h5⟩ := h
  rw [depB_iff] at h5
  obtain ⟨⟨a1, a2⟩, a3, a4, a5⟩ := h5
  have hc := cut_two 62 s.data.toList h1
  obtain ⟨t1, u1, u2⟩ := paA_text _ h2
  obtain ⟨t2, u3, u4⟩ := paA_text _ h3
  have hp := pow_one ⟨(sideR s).1.toNat, by unfold sideR; omega⟩
  have he : (((sideR s).1.toNat : Nat) : Int) = (sideR s).1 := by unfold sideR; omega
  simp only [he] at hp
  have hv : valB (sideL s).1 = true := by unfold valB; rw [decide_eq_true_iff]; unfold sideL; omega
  unfold fmtD
  rw [if_pos ⟨hv, a4, by omega⟩, hp h4]
  apply ByteArray.ext
  apply Array.ext'
  rw [ByteArray.data_append, ByteArray.data_append, Array.toList_append, Array.toList_append]
  unfold sideL sideR
  rw [t1, t2]
  refine Eq.trans ?_ hc.symm
  simp [strB]
end Go.Proofs.Ytfndnaldgaaieaa
namespace Go.Proofs.Ytfndnaldgaaieaa
open Go.RowKit

theorem bits_andNot (a b : Int) : bits .andNot .i64 a b = IntKind.i64.wrap ((BitVec.ofInt 64 a &&& ~~~BitVec.ofInt 64 b).toNat : Int) := rfl
theorem bits_and (a b : Int) : bits .and .i64 a b = IntKind.i64.wrap ((BitVec.ofInt 64 a &&& BitVec.ofInt 64 b).toNat : Int) := rfl
theorem bv_part (x y : BitVec 64) : (x &&& ~~~y = 0#64) ↔ (x &&& y = x) := by
  constructor
  · intro h
    apply BitVec.eq_of_getLsbD_eq
    intro i hi
    have h2 : (x &&& ~~~y).getLsbD i = (0#64).getLsbD i := by rw [h]
    simp [hi] at h2 ⊢
    intro hx; exact h2 hx
  · intro h
    rw [← h, BitVec.and_assoc]
    simp
theorem wrap_nat_zero (n : Nat) (h : n < 2 ^ 64) : (IntKind.i64.wrap (n : Int) = 0) ↔ n = 0 := by
  rw [IntKind.wrap_i64]; omega
theorem bv_zero (x : BitVec 64) : (IntKind.i64.wrap (x.toNat : Int) = 0) ↔ x = 0#64 := by
  rw [wrap_nat_zero _ x.isLt]
  constructor
  · intro h; exact BitVec.eq_of_toNat_eq (by simpa using h)
  · intro h; rw [h]; rfl
theorem bv_self (v : BitVec 64) (x : Int) (h0 : -9223372036854775808 ≤ x) (h1 : x ≤ 9223372036854775807) : (IntKind.i64.wrap (v.toNat : Int) = x) ↔ v = BitVec.ofInt 64 x := by
  rw [IntKind.wrap_i64]
  have e := BitVec.toNat_ofInt (n := 64) x
  have l := v.isLt
  constructor
  · intro h
    apply BitVec.eq_of_toNat_eq
    rw [e]; omega
  · intro h
    rw [h, e]; omega
/-- 'x &^ y == 0': the same as 'x & y == x'. -/
def partZ (x y : Int) : Bool := bits .andNot .i64 x y == 0
theorem partZ_eq (x y : Int) (h0 : -9223372036854775808 ≤ x) (h1 : x ≤ 9223372036854775807) : partZ x y = (bits .and .i64 x y == x) := by
  unfold partZ
  rw [Bool.eq_iff_iff, beq_iff_eq, beq_iff_eq, bits_andNot, bits_and, bv_zero, bv_self _ x h0 h1, bv_part]
theorem and_mask (n : Nat) (hn : n < 63) (x : Int) : bits .and .i64 x (2 ^ n - 1) = x % 2 ^ n := by
  have p1 : (2 : Nat) ^ n < 2 ^ 63 := Nat.pow_lt_pow_right (by omega) hn
  have p0 : 0 < (2 : Nat) ^ n := Nat.pow_pos (by omega)
  have hc : ((2 : Int) ^ n) = ((2 ^ n : Nat) : Int) := by rw [Int.natCast_pow]; rfl
  have h : (BitVec.ofInt 64 (2 ^ n - 1)).toNat = 2 ^ n - 1 := by
    rw [BitVec.toNat_ofInt, hc]; omega
  have key : (BitVec.ofInt 64 x &&& BitVec.ofInt 64 (2 ^ n - 1)).toNat = (x % ((2 ^ 64 : Nat) : Int)).toNat % 2 ^ n := by
    rw [BitVec.toNat_and, BitVec.toNat_ofInt, h, Nat.and_two_pow_sub_one_eq_mod]
  rw [bits_and, key, IntKind.wrap_i64, hc]
  have hd : ((2 ^ n : Nat) : Int) ∣ ((2 ^ 64 : Nat) : Int) := by
    rw [show 64 = n + (64 - n) by omega, Nat.pow_add, Int.natCast_mul]; exact Int.dvd_mul_right _ _
  have e : (((x % ((2 ^ 64 : Nat) : Int)).toNat % 2 ^ n : Nat) : Int) = x % ((2 ^ n : Nat) : Int) := by
    rw [Int.natCast_emod, Int.toNat_of_nonneg (Int.emod_nonneg _ (by decide)), Int.emod_emod_of_dvd _ hd]
  rw [e]
  have q0 := Int.emod_nonneg x (b := ((2 ^ n : Nat) : Int)) (by omega)
  have q1 := Int.emod_lt_of_pos x (b := ((2 ^ n : Nat) : Int)) (by omega)
  omega
theorem partZ_first (n : Nat) (hn : n ≤ 5) (x : Int) (h0 : -9223372036854775808 ≤ x) (h1 : x ≤ 9223372036854775807) : partZ x (2 ^ n - 1) = decide (0 ≤ x ∧ x ≤ 2 ^ n - 1) := by
  rw [partZ_eq x _ h0 h1, and_mask n (by omega), Bool.eq_iff_iff, beq_iff_eq, decide_eq_true_iff]
  have p0 : 0 < (2 : Nat) ^ n := Nat.pow_pos (by omega)
  have hc : ((2 : Int) ^ n) = ((2 ^ n : Nat) : Int) := by rw [Int.natCast_pow]; rfl
  rw [hc]
  constructor
  · intro h
    have q0 := Int.emod_nonneg x (b := ((2 ^ n : Nat) : Int)) (by omega)
    have q1 := Int.emod_lt_of_pos x (b := ((2 ^ n : Nat) : Int)) (by omega)
    omega
  · rintro ⟨a, b⟩; exact Int.emod_eq_of_lt a (by omega)
theorem partZ_31 (x : Int) (h0 : -9223372036854775808 ≤ x) (h1 : x ≤ 9223372036854775807) : partZ x 31 = valB x := partZ_first 5 (by omega) x h0 h1

theorem partOf_any (x y : Int) (w : World) :
    Calls Try.prog 56 #[.int .i64 x, .int .i64 y] w fun e w' => e = .returned (.bool (partZ x y)) ∧ w = w' := by
  go_enter Try.func56, Try.ntmps56
  go_wp2_with fail
  go_ret
  exact ⟨rfl, rfl⟩
theorem colCount_any (n : Int) (w : World) :
    Calls Try.prog 55 #[.int .i64 n] w fun e w' => e = .returned (.bool (decide (0 ≤ n ∧ n ≤ 5))) ∧ w = w' := by
  by_cases h1 : 0 ≤ n <;> by_cases h2 : n ≤ 5
  all_goals
    go_enter Try.func55, Try.ntmps55
    go_wp2
    go_ret
    exact ⟨by simp [h1, h2], rfl⟩
theorem first_any (n : Int) (w : World) (h0 : 0 ≤ n) (h1 : n ≤ 5) :
    Calls Try.prog 57 #[.int .i64 n] w fun e w' => e = .returned (.int .i64 (2 ^ n.toNat - 1)) ∧ w = w' := by
  rcases (show n = 0 ∨ n = 1 ∨ n = 2 ∨ n = 3 ∨ n = 4 ∨ n = 5 by omega) with rfl | rfl | rfl | rfl | rfl | rfl
  all_goals
    go_enter Try.func57, Try.ntmps57
    go_wp2
    go_ret
    exact ⟨rfl, rfl⟩
theorem has_any (X k : Nat) (hk : k ≤ 62) (w : World) :
    Calls Try.prog 71 #[.int .i64 (X : Int), .int .i64 (k : Int)] w fun e w' => e = .returned (.bool (bitB X k)) ∧ w = w' := by
  have hb : (bits BinOp.and IntKind.i64 ((X : Int) / 2 ^ k) 1 != 0) = bitB X k := by
    rw [← bit_test, i64_and_1, Bool.eq_iff_iff, bne_iff_ne, beq_iff_eq]; omega
  go_enter Try.func71, Try.ntmps71
  go_wp2_with fail
  go_ret
  exact ⟨rfl, rfl⟩
theorem implIsA_any (n x : Int) (h0 : -9223372036854775808 ≤ x) (h1 : x ≤ 9223372036854775807) (w : World) :
    Calls Try.prog 29 #[.int .i64 n, .int .i64 x] w fun e w' => e = .returned (.bool (isA n x)) ∧ Below w.heap.size w w' := by
  by_cases hn : 0 ≤ n ∧ n ≤ 5
  · have hd : decide (0 ≤ n ∧ n ≤ 5) = true := by simp [hn]
    have HZ : Hid (isA n x = partZ x (2 ^ n.toNat - 1)) := Lib.hid (by rw [partZ_first n.toNat (by omega) x h0 h1]; unfold isA; simp [hn])
    go_enter Try.func29, Try.ntmps29
    go_wp2_with fail
    refine (colCount_any _ _).mono ?_
    rintro e w' ⟨rfl, rfl⟩
    go_wp2_with fail
    refine (first_any _ _ hn.1 hn.2).mono ?_
    rintro e w' ⟨rfl, rfl⟩
    go_wp2_with fail
    refine (partOf_any _ _ _).mono ?_
    rintro e w' ⟨rfl, rfl⟩
    go_wp2_with fail
    go_ret
    exact ⟨ret_b HZ.out, Below.refl _ _⟩
  · have hd : decide (0 ≤ n ∧ n ≤ 5) = false := by simp only [hn, decide_false]
    go_enter Try.func29, Try.ntmps29
    go_wp2_with fail
    refine (colCount_any _ _).mono ?_
    rintro e w' ⟨rfl, rfl⟩
    go_wp2_with fail
    go_ret
    exact ⟨ret_b (by unfold isA; simp only [hn, false_and, decide_false]), Below.refl _ _⟩
end Go.Proofs.Ytfndnaldgaaieaa
