/- The model's ParseDep, by contract. Conditions: as stated. -/
import Derived.Test.YtficnbeciohpfaaDepE
import Derived.Test.YtficnbeciohpfaaDepD
import Derived.Test.YtficnbeciohpfaaSets4
import Derived.Test.YtficnbeciohpfaaSets2
import Derived.Test.YtficnbeciohpfaaSpecQ
namespace Go.Proofs.Ytficnbeciohpfaa
open Go.RowKit

theorem least_tx (s : ByteArray) : ∀ n, (∃ i, i < n ∧ isTx s i = true) → ∃ a, a < n ∧ isTx s a = true ∧ ∀ b, b < a → isTx s b = false
  | 0, ⟨i, h, _⟩ => absurd h (Nat.not_lt_zero _)
  | n + 1, ⟨i, h, hi⟩ => by
    by_cases hx : ∃ j, j < n ∧ isTx s j = true
    · obtain ⟨a, h1, h2⟩ := least_tx s n hx
      exact ⟨a, by omega, h2⟩
    · have : i = n := by
        by_cases e : i = n
        · exact e
        · exact (hx ⟨i, by omega, hi⟩).elim
      subst this
      exact ⟨i, h, hi, fun b hb => by
        cases hp : isTx s b with
        | false => rfl
        | true => exact (hx ⟨b, hb, hp⟩).elim⟩
theorem PaA.ex (s : ByteArray) : ∃ p : Int × Bool, PaA s p.1 p.2 := by
  by_cases h : ∃ i, i < 32 ∧ isTx s i = true
  · obtain ⟨a, h1, h2, h3⟩ := least_tx s 32 h
    exact ⟨((a : Int), true), .inl ⟨a, h1, rfl, h2, h3, rfl⟩⟩
  · refine ⟨(0, false), .inr ⟨fun j hj => ?_, rfl, rfl⟩⟩
    cases hp : isTx s j with
    | false => rfl
    | true => exact (h ⟨j, hj, hp⟩).elim
/-- What ParseAttributes answers. -/
noncomputable def paA (s : ByteArray) : Int × Bool := Classical.choose (PaA.ex s)
theorem paA_is (s : ByteArray) : PaA s (paA s).1 (paA s).2 := Classical.choose_spec (PaA.ex s)
theorem paA_eq {s : ByteArray} {x : Int} {ok : Bool} (h : PaA s x ok) : x = (paA s).1 ∧ ok = (paA s).2 := h.unique (paA_is s)
theorem parseF_any (s : ByteArray) (w : World) :
    Calls Try.prog 47 #[.string s] w fun e w' => e = .returned (.tuple #[.int .i64 (paA s).1, .bool (paA s).2]) ∧ Below w.heap.size w w' := by
  refine (parseS_any s w).mono ?_
  rintro e w' ⟨x, ok, h, rfl, hb⟩
  obtain ⟨rfl, rfl⟩ := paA_eq h
  exact ⟨rfl, hb⟩
/-- A result's two cells, stored anew. -/
theorem res2 {w : World} {b : Nat} {a0 a1 : Value} (u0 u1 : Value) (h0 : w.cell? ⟨b, 0, none⟩ = some a0) (h1 : w.cell? ⟨b, 1, none⟩ = some a1) : ((w.setCell ⟨b, 0, none⟩ u0).setCell ⟨b, 1, none⟩ u1).cell? ⟨b, 0, none⟩ = some u0 ∧ ((w.setCell ⟨b, 0, none⟩ u0).setCell ⟨b, 1, none⟩ u1).cell? ⟨b, 1, none⟩ = some u1 := by
  have g1 : (w.setCell ⟨b, 0, none⟩ u0).cell? ⟨b, 1, none⟩ = some a1 := (World.cell?_setCell_other _ _ _ _ (by intro e; simp at e)).trans h1
  exact ⟨(World.cell?_setCell_other _ _ _ _ (by intro e; simp at e)).trans (World.cell?_setCell_same _ _ _ h0), World.cell?_setCell_same _ _ _ g1⟩
theorem fz2 {w wr : World} {a b : Value} {T : TypeId} (hb : Below (w.alloc (.cells #[a, b] T)).heap.size (w.alloc (.cells #[a, b] T)) wr) : wr.frozen? ⟨w.heap.size, 0, none⟩ = false ∧ wr.frozen? ⟨w.heap.size, 1, none⟩ = false :=
  ⟨(hb.frozen (p := ⟨w.heap.size, 0, none⟩) (by simp)).trans (World.frozen?_alloc_new _ _ _ _), (hb.frozen (p := ⟨w.heap.size, 1, none⟩) (by simp)).trans (World.frozen?_alloc_new _ _ _ _)⟩
/-- A row of two strings. -/
theorem two_str {w : World} {B : Nat} {v : Value} {p q : List UInt8} (h : OwnZ w B v [p, q]) : ∃ g cap, v = .slice (some ⟨g, 0, none⟩) 2 cap ∧ w.cell? ⟨g, 0, none⟩ = some (.string ⟨p.toArray⟩) ∧ w.cell? ⟨g, 1, none⟩ = some (.string ⟨q.toArray⟩) := by
  rcases ownsRow_shape h with ⟨rfl, hn⟩ | ⟨g, cap, rfl, -, -, -⟩
  · simp at hn
  · exact ⟨g, cap, rfl, World.ownsRow.cellAt h 0 (by simp), World.ownsRow.cellAt h 1 (by simp)⟩
def strB (l : List UInt8) : ByteArray := ⟨l.toArray⟩
/-- The two sides of a dependency's text. -/
noncomputable def sideL (s : ByteArray) : Int × Bool := paA (strB ((cutL 62 s.data.toList).getD 0 []))
noncomputable def sideR (s : ByteArray) : Int × Bool := paA (strB ((cutL 62 s.data.toList).getD 1 []))
noncomputable def okP (n : Int) (s : ByteArray) : Bool := decide ((cutL 62 s.data.toList).length = 2) && ((sideL s).2 && ((sideR s).2 && (decide (cnt (sideR s).1 = 1) && depB n (sideL s).1 ((mems (sideR s).1).getD 0 0))))
noncomputable def pdL (n : Int) (s : ByteArray) : Int := if okP n s = true then (sideL s).1 else 0
noncomputable def pdR (n : Int) (s : ByteArray) : Int := if okP n s = true then (mems (sideR s).1).getD 0 0 else 0
section
set_option maxRecDepth 20000
set_option maxHeartbeats 1600000
theorem parseDep_any (n : Int) (s : ByteArray) (w : World) (hs : s.size ≤ 1048576) :
    Calls Try.prog 24 #[.int .i64 n, .string s] w fun e w' => e = .returned (.tuple #[.agg #[.int .i64 (pdL n s), .int .i64 (pdR n s)], .bool (okP n s)]) ∧ Below w.heap.size w w' := by
  have HC := Lib.hid (fun w' => l2Cut_any s 62 w' hs)
  rw [show ((UInt8.toNat 62 : Nat) : Int) = 62 from rfl] at HC
  have hb1 := (Below.refl w.heap.size w).alloc (Nat.le_refl _) (.cells #[.int .i64 0, .int .i64 0] 25)
  have HBX := Lib.hid (fun w' (hb : Below (w.alloc (.cells #[.int .i64 0, .int .i64 0] 25)).heap.size (w.alloc (.cells #[.int .i64 0, .int .i64 0] 25)) w') => And.intro (hb1.trans (hb.mono hb1.size)) (box2 hb))
  have HRF := Lib.hid (Below.refl (w.alloc (.cells #[.int .i64 0, .int .i64 0] 25)).heap.size (w.alloc (.cells #[.int .i64 0, .int .i64 0] 25)))
  clear hb1
  by_cases hlen : (cutL 62 s.data.toList).length = 2
  · obtain ⟨p, q, hpq⟩ : ∃ p q, cutL 62 s.data.toList = [p, q] := by
      match h : cutL 62 s.data.toList, hlen with
      | [p, q], _ => exact ⟨p, q, rfl⟩
    have hL : sideL s = paA (strB p) := by unfold sideL; rw [hpq]; rfl
    have hR : sideR s = paA (strB q) := by unfold sideR; rw [hpq]; rfl
    have HX := Lib.hid (parseF_any (strB p))
    have HY := Lib.hid (parseF_any (strB q))
    have hok : okP n s = ((paA (strB p)).2 && ((paA (strB q)).2 && (decide (cnt (paA (strB q)).1 = 1) && depB n (paA (strB p)).1 ((mems (paA (strB q)).1).getD 0 0)))) := by
      unfold okP; rw [hlen, hL, hR]; simp
    have hl : pdL n s = if okP n s = true then (paA (strB p)).1 else 0 := by unfold pdL; rw [hL]
    have hr : pdR n s = if okP n s = true then (mems (paA (strB q)).1).getD 0 0 else 0 := by unfold pdR; rw [hR]
    rw [hpq] at HC
    obtain ⟨⟨x, one⟩, hx⟩ : ∃ z, z = paA (strB p) := ⟨_, rfl⟩
    obtain ⟨⟨y, two⟩, hy⟩ : ∃ z, z = paA (strB q) := ⟨_, rfl⟩
    rw [← hx] at HX hok hl
    rw [← hy] at HY hok hr
    simp only at HX HY hok hl hr
    have HCT := Lib.hid (countS_any y)
    have HME := Lib.hid (membersS_any y)
    clear hlen hpq hL hR hx hy
    cases one with
    | false =>
      have HE : Hid (okP n s = false ∧ pdL n s = 0 ∧ pdR n s = 0) := Lib.hid (by rw [hl, hr, hok]; exact ⟨rfl, rfl, rfl⟩)
      clear hok hl hr
      go_enter Try.func24, Try.ntmps24
      go_wp2_with fail
      refine (HC.out _).mono ?_
      rintro e w1 ⟨v1, rfl, ho1, b1⟩
      have kb := HRF.out.trans (b1.mono HRF.out.size)
      obtain ⟨hb1, c0, c1⟩ := HBX.out _ kb
      obtain ⟨g, cap1, rfl, hy0, hy1⟩ := two_str ho1
      clear b1 ho1
      go_wp2_with fail
      refine (HX.out _).mono ?_
      rintro e w2 ⟨rfl, b2⟩
      replace hy0 := cell_on hy0 b2
      replace hy1 := cell_on hy1 b2
      replace kb := kb.trans (b2.mono kb.size)
      clear c0 c1 hb1 b2
      obtain ⟨hb1, c0, c1⟩ := HBX.out _ kb
      go_wp2_with fail
      refine (HY.out _).mono ?_
      rintro e w3 ⟨rfl, b3⟩
      replace kb := kb.trans (b3.mono kb.size)
      clear c0 c1 hb1 b3 hy0 hy1
      obtain ⟨hb1, c0, c1⟩ := HBX.out _ kb
      obtain ⟨f0, f1⟩ := fz2 kb
      obtain ⟨r0, r1⟩ := res2 (.int .i64 0) (.int .i64 0) c0 c1
      have hbe := (hb1.setCell (p := ⟨w.heap.size, 0, none⟩) (Nat.le_refl _) (.int .i64 0)).setCell (p := ⟨w.heap.size, 1, none⟩) (Nat.le_refl _) (.int .i64 0)
      go_wp2_with fail
      exact bodyPost_ret (v := .tuple #[.agg #[.int .i64 0, .int .i64 0], .bool false]) (by simp [results, Try.results24, go_sem, r0, r1]) rfl ⟨by rw [HE.out.1, HE.out.2.1, HE.out.2.2], hbe⟩
    | true =>
      cases two with
      | false =>
        have HE : Hid (okP n s = false ∧ pdL n s = 0 ∧ pdR n s = 0) := Lib.hid (by rw [hl, hr, hok]; exact ⟨rfl, rfl, rfl⟩)
        clear hok hl hr
        go_enter Try.func24, Try.ntmps24
        go_wp2_with fail
        refine (HC.out _).mono ?_
        rintro e w1 ⟨v1, rfl, ho1, b1⟩
        have kb := HRF.out.trans (b1.mono HRF.out.size)
        obtain ⟨hb1, c0, c1⟩ := HBX.out _ kb
        obtain ⟨g, cap1, rfl, hy0, hy1⟩ := two_str ho1
        clear b1 ho1
        go_wp2_with fail
        refine (HX.out _).mono ?_
        rintro e w2 ⟨rfl, b2⟩
        replace hy0 := cell_on hy0 b2
        replace hy1 := cell_on hy1 b2
        replace kb := kb.trans (b2.mono kb.size)
        clear c0 c1 hb1 b2
        obtain ⟨hb1, c0, c1⟩ := HBX.out _ kb
        go_wp2_with fail
        refine (HY.out _).mono ?_
        rintro e w3 ⟨rfl, b3⟩
        replace kb := kb.trans (b3.mono kb.size)
        clear c0 c1 hb1 b3 hy0 hy1
        obtain ⟨hb1, c0, c1⟩ := HBX.out _ kb
        obtain ⟨f0, f1⟩ := fz2 kb
        obtain ⟨r0, r1⟩ := res2 (.int .i64 0) (.int .i64 0) c0 c1
        have hbe := (hb1.setCell (p := ⟨w.heap.size, 0, none⟩) (Nat.le_refl _) (.int .i64 0)).setCell (p := ⟨w.heap.size, 1, none⟩) (Nat.le_refl _) (.int .i64 0)
        go_wp2_with fail
        exact bodyPost_ret (v := .tuple #[.agg #[.int .i64 0, .int .i64 0], .bool false]) (by simp [results, Try.results24, go_sem, r0, r1]) rfl ⟨by rw [HE.out.1, HE.out.2.1, HE.out.2.2], hbe⟩
      | true =>
        by_cases hcn : cnt y = 1
        · obtain ⟨z, hz⟩ : ∃ z, mems y = [z] := by
            unfold cnt at hcn
            match h : mems y, hcn with
            | [z], _ => exact ⟨z, rfl⟩
          rw [hcn] at HCT
          rw [hz] at HME hok hr
          rw [show ([z] : List Int).getD 0 0 = z from rfl] at hok hr
          have hdc : decide (cnt y = 1) = true := decide_eq_true hcn
          rw [hdc] at hok
          have HDP := Lib.hid (isDep_any n x z)
          clear hdc hcn hz
          cases hdp : depB n x z with
          | false =>
            rw [hdp] at hok HDP
            have HE : Hid (okP n s = false ∧ pdL n s = 0 ∧ pdR n s = 0) := Lib.hid (by rw [hl, hr, hok]; exact ⟨rfl, rfl, rfl⟩)
            clear hok hl hr
            clear hdp
            go_enter Try.func24, Try.ntmps24
            go_wp2_with fail
            refine (HC.out _).mono ?_
            rintro e w1 ⟨v1, rfl, ho1, b1⟩
            have kb := HRF.out.trans (b1.mono HRF.out.size)
            obtain ⟨hb1, c0, c1⟩ := HBX.out _ kb
            obtain ⟨g, cap1, rfl, hy0, hy1⟩ := two_str ho1
            clear b1 ho1
            go_wp2_with fail
            refine (HX.out _).mono ?_
            rintro e w2 ⟨rfl, b2⟩
            replace hy0 := cell_on hy0 b2
            replace hy1 := cell_on hy1 b2
            replace kb := kb.trans (b2.mono kb.size)
            clear c0 c1 hb1 b2
            obtain ⟨hb1, c0, c1⟩ := HBX.out _ kb
            go_wp2_with fail
            refine (HY.out _).mono ?_
            rintro e w3 ⟨rfl, b3⟩
            replace kb := kb.trans (b3.mono kb.size)
            clear c0 c1 hb1 b3 hy0 hy1
            obtain ⟨hb1, c0, c1⟩ := HBX.out _ kb
            obtain ⟨f0, f1⟩ := fz2 kb
            go_wp2_with fail
            refine (HCT.out _).mono ?_
            rintro e w4 ⟨rfl, b4⟩
            replace kb := kb.trans (b4.mono kb.size)
            clear c0 c1 hb1 f0 f1
            obtain ⟨hb1, c0, c1⟩ := HBX.out _ kb
            obtain ⟨f0, f1⟩ := fz2 kb
            clear b4
            go_wp2_with fail
            refine (HME.out _).mono ?_
            rintro e w4 ⟨vm, rfl, hom, b4⟩
            replace kb := kb.trans (b4.mono kb.size)
            clear c0 c1 hb1 f0 f1
            obtain ⟨hb1, c0, c1⟩ := HBX.out _ kb
            obtain ⟨f0, f1⟩ := fz2 kb
            obtain ⟨am, capm, rfl, hrm⟩ := hom.read
            obtain ⟨xm, rfl, hym⟩ := hrm 0 (by simp)
            have hym : w4.cell? xm = some (.int .i64 z) := by have := hym; rw [Addr.add_zero'] at this; exact this
            clear hom hrm
            clear b4
            have bD := (Below.refl w4.heap.size w4).alloc (Nat.le_refl _) (.cells #[.int .i64 x, .int .i64 z] 25)
            have HDB := Lib.hid (fun w' (hb : Below (w4.alloc (.cells #[.int .i64 x, .int .i64 z] 25)).heap.size (w4.alloc (.cells #[.int .i64 x, .int .i64 z] 25)) w') => box2 hb)
            replace kb := kb.trans (bD.mono kb.size)
            clear c0 c1 hb1 f0 f1 bD
            obtain ⟨hb1, c0, c1⟩ := HBX.out _ kb
            obtain ⟨f0, f1⟩ := fz2 kb
            go_wp2_with fail
            refine (HDP.out _).mono ?_
            rintro e w5 ⟨rfl, b4⟩
            replace kb := kb.trans (b4.mono kb.size)
            clear c0 c1 hb1 f0 f1
            obtain ⟨hb1, c0, c1⟩ := HBX.out _ kb
            obtain ⟨f0, f1⟩ := fz2 kb
            obtain ⟨e0, e1⟩ := HDB.out _ b4
            clear b4
            obtain ⟨r0, r1⟩ := res2 (.int .i64 0) (.int .i64 0) c0 c1
            have hbe := (hb1.setCell (p := ⟨w.heap.size, 0, none⟩) (Nat.le_refl _) (.int .i64 0)).setCell (p := ⟨w.heap.size, 1, none⟩) (Nat.le_refl _) (.int .i64 0)
            go_wp2_with fail
            exact bodyPost_ret (v := .tuple #[.agg #[.int .i64 0, .int .i64 0], .bool false]) (by simp [results, Try.results24, go_sem, r0, r1]) rfl ⟨by rw [HE.out.1, HE.out.2.1, HE.out.2.2], hbe⟩
          | true =>
            rw [hdp] at hok HDP
            have HE : Hid (okP n s = true ∧ pdL n s = x ∧ pdR n s = z) := Lib.hid (by rw [hl, hr, hok]; exact ⟨rfl, rfl, rfl⟩)
            clear hok hl hr hdp
            go_enter Try.func24, Try.ntmps24
            go_wp2_with fail
            refine (HC.out _).mono ?_
            rintro e w1 ⟨v1, rfl, ho1, b1⟩
            have kb := HRF.out.trans (b1.mono HRF.out.size)
            obtain ⟨hb1, c0, c1⟩ := HBX.out _ kb
            obtain ⟨g, cap1, rfl, hy0, hy1⟩ := two_str ho1
            clear b1 ho1
            go_wp2_with fail
            refine (HX.out _).mono ?_
            rintro e w2 ⟨rfl, b2⟩
            replace hy0 := cell_on hy0 b2
            replace hy1 := cell_on hy1 b2
            replace kb := kb.trans (b2.mono kb.size)
            clear c0 c1 hb1 b2
            obtain ⟨hb1, c0, c1⟩ := HBX.out _ kb
            go_wp2_with fail
            refine (HY.out _).mono ?_
            rintro e w3 ⟨rfl, b3⟩
            replace kb := kb.trans (b3.mono kb.size)
            clear c0 c1 hb1 b3 hy0 hy1
            obtain ⟨hb1, c0, c1⟩ := HBX.out _ kb
            obtain ⟨f0, f1⟩ := fz2 kb
            go_wp2_with fail
            refine (HCT.out _).mono ?_
            rintro e w4 ⟨rfl, b4⟩
            replace kb := kb.trans (b4.mono kb.size)
            clear c0 c1 hb1 f0 f1
            obtain ⟨hb1, c0, c1⟩ := HBX.out _ kb
            obtain ⟨f0, f1⟩ := fz2 kb
            clear b4
            go_wp2_with fail
            refine (HME.out _).mono ?_
            rintro e w4 ⟨vm, rfl, hom, b4⟩
            replace kb := kb.trans (b4.mono kb.size)
            clear c0 c1 hb1 f0 f1
            obtain ⟨hb1, c0, c1⟩ := HBX.out _ kb
            obtain ⟨f0, f1⟩ := fz2 kb
            obtain ⟨am, capm, rfl, hrm⟩ := hom.read
            obtain ⟨xm, rfl, hym⟩ := hrm 0 (by simp)
            have hym : w4.cell? xm = some (.int .i64 z) := by have := hym; rw [Addr.add_zero'] at this; exact this
            clear hom hrm
            clear b4
            have bD := (Below.refl w4.heap.size w4).alloc (Nat.le_refl _) (.cells #[.int .i64 x, .int .i64 z] 25)
            have HDB := Lib.hid (fun w' (hb : Below (w4.alloc (.cells #[.int .i64 x, .int .i64 z] 25)).heap.size (w4.alloc (.cells #[.int .i64 x, .int .i64 z] 25)) w') => box2 hb)
            replace kb := kb.trans (bD.mono kb.size)
            clear c0 c1 hb1 f0 f1 bD
            obtain ⟨hb1, c0, c1⟩ := HBX.out _ kb
            obtain ⟨f0, f1⟩ := fz2 kb
            go_wp2_with fail
            refine (HDP.out _).mono ?_
            rintro e w5 ⟨rfl, b4⟩
            replace kb := kb.trans (b4.mono kb.size)
            clear c0 c1 hb1 f0 f1
            obtain ⟨hb1, c0, c1⟩ := HBX.out _ kb
            obtain ⟨f0, f1⟩ := fz2 kb
            obtain ⟨e0, e1⟩ := HDB.out _ b4
            clear b4
            obtain ⟨r0, r1⟩ := res2 (.int .i64 x) (.int .i64 z) c0 c1
            have hbe := (hb1.setCell (p := ⟨w.heap.size, 0, none⟩) (Nat.le_refl _) (.int .i64 x)).setCell (p := ⟨w.heap.size, 1, none⟩) (Nat.le_refl _) (.int .i64 z)
            go_wp2_with fail
            exact bodyPost_ret (v := .tuple #[.agg #[.int .i64 x, .int .i64 z], .bool true]) (by simp [results, Try.results24, go_sem, r0, r1]) rfl ⟨by rw [HE.out.1, HE.out.2.1, HE.out.2.2], hbe⟩
        · have hdc : decide (cnt y = 1) = false := decide_eq_false hcn
          have hne : ((cnt y : Int) != 1) = true := by rw [bne_iff_ne]; omega
          have HE : Hid (okP n s = false ∧ pdL n s = 0 ∧ pdR n s = 0) := Lib.hid (by rw [hl, hr, hok, hdc]; exact ⟨rfl, rfl, rfl⟩)
          clear hok hl hr
          clear hdc hcn
          go_enter Try.func24, Try.ntmps24
          go_wp2_with fail
          refine (HC.out _).mono ?_
          rintro e w1 ⟨v1, rfl, ho1, b1⟩
          have kb := HRF.out.trans (b1.mono HRF.out.size)
          obtain ⟨hb1, c0, c1⟩ := HBX.out _ kb
          obtain ⟨g, cap1, rfl, hy0, hy1⟩ := two_str ho1
          clear b1 ho1
          go_wp2_with fail
          refine (HX.out _).mono ?_
          rintro e w2 ⟨rfl, b2⟩
          replace hy0 := cell_on hy0 b2
          replace hy1 := cell_on hy1 b2
          replace kb := kb.trans (b2.mono kb.size)
          clear c0 c1 hb1 b2
          obtain ⟨hb1, c0, c1⟩ := HBX.out _ kb
          go_wp2_with fail
          refine (HY.out _).mono ?_
          rintro e w3 ⟨rfl, b3⟩
          replace kb := kb.trans (b3.mono kb.size)
          clear c0 c1 hb1 b3 hy0 hy1
          obtain ⟨hb1, c0, c1⟩ := HBX.out _ kb
          obtain ⟨f0, f1⟩ := fz2 kb
          go_wp2_with fail
          refine (HCT.out _).mono ?_
          rintro e w4 ⟨rfl, b4⟩
          replace kb := kb.trans (b4.mono kb.size)
          clear c0 c1 hb1 f0 f1
          obtain ⟨hb1, c0, c1⟩ := HBX.out _ kb
          obtain ⟨f0, f1⟩ := fz2 kb
          clear b4
          obtain ⟨r0, r1⟩ := res2 (.int .i64 0) (.int .i64 0) c0 c1
          have hbe := (hb1.setCell (p := ⟨w.heap.size, 0, none⟩) (Nat.le_refl _) (.int .i64 0)).setCell (p := ⟨w.heap.size, 1, none⟩) (Nat.le_refl _) (.int .i64 0)
          go_wp2_with fail
          exact bodyPost_ret (v := .tuple #[.agg #[.int .i64 0, .int .i64 0], .bool false]) (by simp [results, Try.results24, go_sem, r0, r1]) rfl ⟨by rw [HE.out.1, HE.out.2.1, HE.out.2.2], hbe⟩
  · have hne : (((cutL 62 s.data.toList).length : Int) != 2) = true := by rw [bne_iff_ne]; omega
    have hok : okP n s = false := by unfold okP; rw [decide_eq_false hlen]; rfl
    have HE : Hid (okP n s = false ∧ pdL n s = 0 ∧ pdR n s = 0) := Lib.hid (by unfold pdL pdR; rw [hok]; exact ⟨rfl, rfl, rfl⟩)
    obtain ⟨P, hP⟩ : ∃ P, P = cutL 62 s.data.toList := ⟨_, rfl⟩
    rw [← hP] at HC hne
    clear hok hlen hP
    go_enter Try.func24, Try.ntmps24
    go_wp2_with fail
    refine (HC.out _).mono ?_
    rintro e w1 ⟨v1, rfl, ho1, b1⟩
    have kb := HRF.out.trans (b1.mono HRF.out.size)
    obtain ⟨hb1, c0, c1⟩ := HBX.out _ kb
    obtain ⟨a1, cap1, rfl, -⟩ := ho1.read
    obtain ⟨f0, f1⟩ := fz2 kb
    clear b1 ho1
    obtain ⟨r0, r1⟩ := res2 (.int .i64 0) (.int .i64 0) c0 c1
    have hbe := (hb1.setCell (p := ⟨w.heap.size, 0, none⟩) (Nat.le_refl _) (.int .i64 0)).setCell (p := ⟨w.heap.size, 1, none⟩) (Nat.le_refl _) (.int .i64 0)
    go_wp2_with fail
    exact bodyPost_ret (v := .tuple #[.agg #[.int .i64 0, .int .i64 0], .bool false]) (by simp [results, Try.results24, go_sem, r0, r1]) rfl ⟨by rw [HE.out.1, HE.out.2.1, HE.out.2.2], hbe⟩
end
end Go.Proofs.Ytficnbeciohpfaa
