/- Texts of this claim, merged: DepDraw2, CovDraw, MvB. Conditions: as stated. -/
import Derived.Test.YtnbjcelfdppkcadGreatXz2
import Derived.Test.YtnbjcelfdppkcadGreatAgrDraw2m
import Derived.Test.YtnbjcelfdppkcadGreatXz20
import Derived.Test.YtnbjcelfdppkcadGreatXz13
import Derived.Test.YtnbjcelfdppkcadGreatXz5
import Derived.Test.YtnbjcelfdppkcadGreatXz8
import Derived.Test.YtnbjcelfdppkcadGreatParDm
import Derived.Maps.AppendAt
namespace Go.Proofs.YtnbjcelfdppkcadGreat
open Go.RowKit

def DrawTD (w : World) (e : Ending) (w' : World) : Prop :=
  ∃ (cc : Int) (u : Value) (ll : List (List Int)) (m l r : Int), -1 ≤ m ∧ m ≤ 2 ∧ -1 ≤ l ∧ l ≤ 33 ∧ -1 ≤ r ∧ r ≤ 5 ∧ e = .returned (.tuple #[.agg #[.int .i64 cc, u], .int .i64 m, .agg #[.int .i64 l, .int .i64 r]]) ∧ ll.length ≤ 20 ∧ (∀ r ∈ ll, r.length ≤ 10) ∧ OwnSS w' w.heap.size w'.heap.size u ll ∧ Below w.heap.size w w'
/-- The state: both cells of the result, the table's own cell, the table, the growth, the cursor. -/
structure TdSt (W : World) (v : Value) (n c : Nat) (w : World) (T B : Nat) (cc : Int) (u : Value) (ll : List (List Int)) (cz : Int) (uz : Value) (lz rz : Int) (x : World) : Prop where
  z : BoxIs x w.heap.size cz uz
  d : DBox x (w.heap.size + 1) lz rz
  b : BoxIs x T cc u
  s : OwnSS x B T u ll
  g : w.grownBy x none
  e1 : w.heap.size + 1 < c
  e2 : c < B
  e3 : B ≤ T
  e4 : W.heap.size ≤ w.heap.size
  cur : Cur W v n c x
theorem TdSt.grown {W w x y : World} {v u uz : Value} {n c T B : Nat} {cc cz lz rz : Int} {ll : List (List Int)} (h : TdSt W v n c w T B cc u ll cz uz lz rz x) (hg : x.grownBy y (some c)) (hc : Cur W v n c y) : TdSt W v n c w T B cc u ll cz uz lz rz y :=
  ⟨h.z.grown hg (by have := h.e1; simp; omega), h.d.grown hg (by have := h.e1; simp; omega), h.b.grown hg (by have := h.e2; have := h.e3; simp; omega), h.s.same (same_grown hg (Nat.le_of_lt h.b.lt) h.e2),
   grown_above h.g hg (fun g e => by have := h.e1; simp at e; omega), h.e1, h.e2, h.e3, h.e4, hc⟩
theorem TdSt.still {W w x y : World} {v u uz : Value} {n c T B : Nat} {cc cz lz rz : Int} {ll : List (List Int)} (h : TdSt W v n c w T B cc u ll cz uz lz rz x) (hg : x.grownBy y none) : TdSt W v n c w T B cc u ll cz uz lz rz y :=
  h.grown ⟨hg.os, hg.tape, hg.output, hg.size, fun j hj _ => hg.block j hj (by simp)⟩ (h.cur.kept hg (by simp) (by simp))
theorem TdSt.put0 {W w x : World} {v u uz u' : Value} {n c T B : Nat} {cc cz lz rz c' : Int} {ll : List (List Int)} (h : TdSt W v n c w T B cc u ll cz uz lz rz x) : TdSt W v n c w T B cc u ll c' u' lz rz ((x.setCell ⟨w.heap.size, 0, none⟩ (.int .i64 c')).setCell ⟨w.heap.size, 1, none⟩ u') := by
  have h1 := h.e1
  have h2 := h.e2
  have h3 := h.e3
  have h4 := h.e4
  exact ⟨(h.z.set0 (cc' := c')).set (rv' := u'),
    (h.d.grown (grown_cell x ⟨w.heap.size, 0, none⟩ (.int .i64 c')) (by simp)).grown (grown_cell _ ⟨w.heap.size, 1, none⟩ u') (by simp),
    (h.b.grown (grown_cell x ⟨w.heap.size, 0, none⟩ (.int .i64 c')) (by simp; omega)).grown (grown_cell _ ⟨w.heap.size, 1, none⟩ u') (by simp; omega),
    h.s.same (((Same.refl _ _ _).setCell (p := ⟨w.heap.size, 0, none⟩) (.inl (by show w.heap.size < _; omega)) (.int .i64 c')).setCell (p := ⟨w.heap.size, 1, none⟩) (.inl (by show w.heap.size < _; omega)) u'),
    grown_set (grown_set h.g (p := ⟨w.heap.size, 0, none⟩) (Nat.le_refl _) _) (p := ⟨w.heap.size, 1, none⟩) (Nat.le_refl _) _, h1, h2, h3, h4,
    (h.cur.set (p := ⟨w.heap.size, 0, none⟩) (by show W.heap.size ≤ w.heap.size; omega) (by show w.heap.size ≠ c; omega) (.int .i64 c')).set (p := ⟨w.heap.size, 1, none⟩) (by show W.heap.size ≤ w.heap.size; omega) (by show w.heap.size ≠ c; omega) u'⟩
theorem TdSt.putd {W w x : World} {v u uz : Value} {n c T B : Nat} {cc cz lz rz l r : Int} {ll : List (List Int)} (h : TdSt W v n c w T B cc u ll cz uz lz rz x) : TdSt W v n c w T B cc u ll cz uz l r ((x.setCell ⟨w.heap.size + 1, 0, none⟩ (.int .i64 l)).setCell ⟨w.heap.size + 1, 1, none⟩ (.int .i64 r)) := by
  have h1 := h.e1
  have h2 := h.e2
  have h3 := h.e3
  have h4 := h.e4
  exact ⟨(h.z.grown (grown_cell x ⟨w.heap.size + 1, 0, none⟩ (.int .i64 l)) (by simp)).grown (grown_cell _ ⟨w.heap.size + 1, 1, none⟩ (.int .i64 r)) (by simp),
    h.d.set0.set1,
    (h.b.grown (grown_cell x ⟨w.heap.size + 1, 0, none⟩ (.int .i64 l)) (by simp; omega)).grown (grown_cell _ ⟨w.heap.size + 1, 1, none⟩ (.int .i64 r)) (by simp; omega),
    h.s.same (((Same.refl _ _ _).setCell (p := ⟨w.heap.size + 1, 0, none⟩) (.inl (by show w.heap.size + 1 < _; omega)) (.int .i64 l)).setCell (p := ⟨w.heap.size + 1, 1, none⟩) (.inl (by show w.heap.size + 1 < _; omega)) (.int .i64 r)),
    grown_set (grown_set h.g (p := ⟨w.heap.size + 1, 0, none⟩) (Nat.le_succ _) _) (p := ⟨w.heap.size + 1, 1, none⟩) (Nat.le_succ _) _, h1, h2, h3, h4,
    (h.cur.set (p := ⟨w.heap.size + 1, 0, none⟩) (by show W.heap.size ≤ w.heap.size + 1; omega) (by show w.heap.size + 1 ≠ c; omega) (.int .i64 l)).set (p := ⟨w.heap.size + 1, 1, none⟩) (by show W.heap.size ≤ w.heap.size + 1; omega) (by show w.heap.size + 1 ≠ c; omega) (.int .i64 r)⟩
end Go.Proofs.YtnbjcelfdppkcadGreat
namespace Go.Proofs.YtnbjcelfdppkcadGreat
open Go.RowKit

def DrawTN (w : World) (e : Ending) (w' : World) : Prop :=
  ∃ (cc : Int) (u : Value) (ll : List (List Int)) (m q : Int), -1 ≤ m ∧ m ≤ 2 ∧ -2 ≤ q ∧ q ≤ 33 ∧ e = .returned (.tuple #[.agg #[.int .i64 cc, u], .int .i64 m, .int .i64 q]) ∧ ll.length ≤ 20 ∧ (∀ r ∈ ll, r.length ≤ 10) ∧ OwnSS w' w.heap.size w'.heap.size u ll ∧ Below w.heap.size w w'
/-- The state: the table's cell of the result, the table's own cell, the table, the growth, the cursor. -/
structure TmSt (W : World) (v : Value) (n c : Nat) (w : World) (T B : Nat) (cc : Int) (u : Value) (ll : List (List Int)) (cz : Int) (uz : Value) (x : World) : Prop where
  z : BoxIs x w.heap.size cz uz
  b : BoxIs x T cc u
  s : OwnSS x B T u ll
  g : w.grownBy x none
  e1 : w.heap.size < c
  e2 : c < B
  e3 : B ≤ T
  e4 : W.heap.size ≤ w.heap.size
  cur : Cur W v n c x
theorem TmSt.grown {W w x y : World} {v u uz : Value} {n c T B : Nat} {cc cz : Int} {ll : List (List Int)} (h : TmSt W v n c w T B cc u ll cz uz x) (hg : x.grownBy y (some c)) (hc : Cur W v n c y) : TmSt W v n c w T B cc u ll cz uz y :=
  ⟨h.z.grown hg (by have := h.e1; simp; omega), h.b.grown hg (by have := h.e2; have := h.e3; simp; omega), h.s.same (same_grown hg (Nat.le_of_lt h.b.lt) h.e2),
   grown_above h.g hg (fun g e => by have := h.e1; simp at e; omega), h.e1, h.e2, h.e3, h.e4, hc⟩
theorem TmSt.still {W w x y : World} {v u uz : Value} {n c T B : Nat} {cc cz : Int} {ll : List (List Int)} (h : TmSt W v n c w T B cc u ll cz uz x) (hg : x.grownBy y none) : TmSt W v n c w T B cc u ll cz uz y :=
  h.grown ⟨hg.os, hg.tape, hg.output, hg.size, fun j hj _ => hg.block j hj (by simp)⟩ (h.cur.kept hg (by simp) (by simp))
theorem TmSt.put0 {W w x : World} {v u uz u' : Value} {n c T B : Nat} {cc cz c' : Int} {ll : List (List Int)} (h : TmSt W v n c w T B cc u ll cz uz x) : TmSt W v n c w T B cc u ll c' u' ((x.setCell ⟨w.heap.size, 0, none⟩ (.int .i64 c')).setCell ⟨w.heap.size, 1, none⟩ u') := by
  have h1 := h.e1
  have h2 := h.e2
  have h3 := h.e3
  have h4 := h.e4
  exact ⟨(h.z.set0 (cc' := c')).set (rv' := u'),
    (h.b.grown (grown_cell x ⟨w.heap.size, 0, none⟩ (.int .i64 c')) (by simp; omega)).grown (grown_cell _ ⟨w.heap.size, 1, none⟩ u') (by simp; omega),
    h.s.same (((Same.refl _ _ _).setCell (p := ⟨w.heap.size, 0, none⟩) (.inl (by show w.heap.size < _; omega)) (.int .i64 c')).setCell (p := ⟨w.heap.size, 1, none⟩) (.inl (by show w.heap.size < _; omega)) u'),
    grown_set (grown_set h.g (p := ⟨w.heap.size, 0, none⟩) (Nat.le_refl _) _) (p := ⟨w.heap.size, 1, none⟩) (Nat.le_refl _) _, h1, h2, h3, h4,
    (h.cur.set (p := ⟨w.heap.size, 0, none⟩) (by show W.heap.size ≤ w.heap.size; omega) (by show w.heap.size ≠ c; omega) (.int .i64 c')).set (p := ⟨w.heap.size, 1, none⟩) (by show W.heap.size ≤ w.heap.size; omega) (by show w.heap.size ≠ c; omega) u'⟩
end Go.Proofs.YtnbjcelfdppkcadGreat
namespace Go.Proofs.YtnbjcelfdppkcadGreat
open Go.RowKit

noncomputable def imB (c : Int) (ll : List (List Int)) (m l r : Int) : Bool := okD c ll m l r && minN c.toNat ll m l.toNat r.toNat
theorem depB_small {c l r : Int} (h : depB c l r = true) : ∃ C L R : Nat, c = (C : Int) ∧ l = (L : Int) ∧ r = (R : Int) ∧ 1 ≤ C ∧ C ≤ 5 ∧ L < 2 ^ C ∧ L < 32 ∧ R < C := by
  obtain ⟨⟨h1, h5⟩, ha, h0, hr⟩ := depB_iff.1 h
  unfold isA at ha
  rw [decide_eq_true_iff] at ha
  obtain ⟨-, l0, l1⟩ := ha
  have e : ((2 ^ c.toNat : Nat) : Int) = (2 : Int) ^ c.toNat := by rw [Int.natCast_pow]; rfl
  have h32 := two5 (C := c.toNat) (by omega)
  exact ⟨c.toNat, l.toNat, r.toNat, by omega, by omega, by omega, by omega, by omega, by omega, by omega, by omega⟩
section
set_option maxRecDepth 20000
set_option maxHeartbeats 1600000
/-- No two rows agree in all of the set's columns. -/
def uniqB (c : Int) (ll : List (List Int)) (m s : Int) : Bool := fineT c ll m && isA c s && decide ((clSt c.toNat ll m s ll.length).1.length = 0)
end
/-- The border; the keys. -/
noncomputable def vbL (c : Int) (ll : List (List Int)) (m q : Int) : List Int := if fineT c ll m = true ∧ 0 ≤ q ∧ q < c then brdL c.toNat ll m q.toNat else []
def mkL (c : Int) (ll : List (List Int)) (m : Int) : List Int := minS (if fineT c ll m = true then brdTo (fun x => uniqB c ll m (x : Int)) (2 ^ c.toNat) else [])
noncomputable def mdL (c : Int) (ll : List (List Int)) (m : Int) : List (Int × Int) := if fineT c ll m = true then minD c.toNat ll m else []
noncomputable def apL (c : Int) (ll : List (List Int)) (m rows : Int) : List (Int × Int) := if fineT c ll m = true ∧ 0 ≤ rows then appD c.toNat ll m rows else []
theorem mdL_len (c : Int) (ll : List (List Int)) (m : Int) : (mdL c ll m).length ≤ 160 := by
  unfold mdL
  split
  · rename_i h
    have := isT_bd (fineT_isT h)
    exact minD_len (by omega)
  · simp
theorem ownD_new (w : World) (B : Nat) (hB : B ≤ w.heap.size) : OwnD (w.alloc (.cells #[] 35)) B (.slice (some ⟨w.heap.size, 0, none⟩) 0 0) [] := World.ownsRow_made w #[] 0 hB (by unfold maxLen; omega) rfl
theorem mdIn_succ (f : Int → Nat → Bool) (ps : List Int) (r : Nat) (l0 : List (Int × Int)) (i : Nat) : mdIn f ps r l0 (i + 1) = if f (ps.getD i 0) r = true then mdIn f ps r l0 i ++ [(ps.getD i 0, (r : Int))] else mdIn f ps r l0 i := rfl
section
set_option maxRecDepth 20000
set_option maxHeartbeats 3200000
theorem minimalDeps_any (c m : Int) (v : Value) (ll : List (List Int)) (w : World) (hr : ReadSS w v ll) (hl : ll.length ≤ 1048576) (ht : ∀ i, i < ll.length → (ll.getD i []).length ≤ 1048576) :
    Calls Tryz.prog 36 #[.agg #[.int .i64 c, v], .int .i64 m] w (RetD (mdL c ll m) w) := by
  obtain ⟨i0, hi, hz0, hz1, hz2⟩ := info_parts infoDp
  have HI : Hid (_ ∧ _ ∧ _ ∧ _) := Lib.hid ⟨hi, hz0, hz1, hz2⟩
  clear hi hz0 hz1 hz2
  have hb1 := (Below.refl w.heap.size w).alloc (Nat.le_refl _) (.cells #[.int .i64 c, v] 29)
  have hb2 := hb1.alloc hb1.size (.cells #[] 35)
  have hb12 := (Below.refl (w.alloc (.cells #[.int .i64 c, v] 29)).heap.size (w.alloc (.cells #[.int .i64 c, v] 29))).alloc (Nat.le_refl _) (.cells #[] 35)
  have HF := Lib.hid (fun w' (hb : Below w.heap.size w w') => l4Fine_any c m v ll w' (hr.kept hb) hl ht)
  have HM := Lib.hid (fun (C L R : Nat) w' (hb : Below w.heap.size w w') hT (hL : L < 32) (hR : R < 5) => l7Minimal_any C m L R v ll w' (hr.kept hb) hT hL hR)
  have HB2 := Lib.hid hb2
  have ho2 := ownD_new (w.alloc (.cells #[.int .i64 c, v] 29)) (w.heap.size + 1) (by simp)
  rw [World.size_alloc] at ho2
  obtain ⟨c0, c1⟩ := zero2 w 29 (.int .i64 c) v
  replace c0 := (hb12.cell (World.block_lt_of_cell? _ _ c0)).trans c0
  replace c1 := (hb12.cell (World.block_lt_of_cell? _ _ c1)).trans c1
  obtain ⟨a, cap, rfl, -⟩ := hr
  clear hb1 hb2 ht hb12
  cases hf : fineT c ll m with
  | false =>
    have HE : Hid (mdL c ll m = []) := Lib.hid (by unfold mdL; rw [hf]; rfl)
    rw [hf] at HF
    clear hf
    go_enter Tryz.func36, Tryz.ntmps36
    go_wp2_with fail
    refine (HF.out _ HB2.out).mono ?_
    rintro e w1 ⟨rfl, b1⟩
    have hb2 := HB2.out.trans (b1.mono HB2.out.size)
    have ho3 := ho2.below b1 (fun k hk => (ho2.lt k hk).2)
    clear b1 ho2
    go_wp2_with fail
    go_ret
    exact ⟨_, rfl, by rw [HE.out]; exact ho3.base (by omega), hb2⟩
  | true =>
    rw [hf] at HF
    have hT := fineT_isT hf
    obtain ⟨hc1, hc5, h40⟩ := isT_bd hT
    obtain ⟨C, rfl⟩ : ∃ C : Nat, c = (C : Int) := ⟨c.toNat, by omega⟩
    have HE : Hid (mdL (C : Int) ll m = mdOut (fun S r => minN C ll m S.toNat r) (parts (C : Int)) C) := Lib.hid (by unfold mdL; rw [if_pos hf]; rfl)
    have HQ := Lib.hid (fun (L R : Nat) w' hb hL (hR : R < 5) => HM.out C L R w' hb hT hL hR)
    have HP := Lib.hid (partsS_any (C : Int))
    have HSM := Lib.hid (fun S hS => parts_small (C : Int) S hS)
    have hpl := parts_len32 (C := C) (by omega)
    have HLEN := Lib.hid (fun r => mdOut_len (fun S r => minN C ll m S.toNat r) (parts (C : Int)) r)
    have HLEI := Lib.hid (fun r l0 n => mdIn_len (fun S r => minN C ll m S.toNat r) (parts (C : Int)) r l0 n)
    have HSI := Lib.hid (fun r l0 i => mdIn_succ (fun S r => minN C ll m S.toNat r) (parts (C : Int)) r l0 i)
    obtain ⟨ps, hps⟩ : ∃ ps, ps = parts (C : Int) := ⟨_, rfl⟩
    rw [← hps] at HE HP HSM hpl HLEN HLEI HSI
    clear hf hT HM hps
    go_enter Tryz.func36, Tryz.ntmps36
    go_wp2_with fail
    refine (HF.out _ HB2.out).mono ?_
    rintro e w1 ⟨rfl, b1⟩
    have hb2 := HB2.out.trans (b1.mono HB2.out.size)
    have ho3 := ho2.below b1 (fun k hk => (ho2.lt k hk).2)
    replace c0 := (b1.cell (World.block_lt_of_cell? _ _ c0)).trans c0
    replace c1 := (b1.cell (World.block_lt_of_cell? _ _ c1)).trans c1
    clear b1 ho2
    go_wp2_with fail
    refine (HP.out _).mono ?_
    rintro e w2 ⟨vp, rfl, op, b2⟩
    have hb3 := hb2.trans (b2.mono hb2.size)
    have ho4 := ho3.below b2 (fun k hk => (ho3.lt k hk).2)
    replace c0 := (b2.cell (World.block_lt_of_cell? _ _ c0)).trans c0
    replace c1 := (b2.cell (World.block_lt_of_cell? _ _ c1)).trans c1
    have op' := op.base (B' := w.heap.size) hb2.size
    obtain ⟨ap, capp, hvp, -⟩ := op.read
    subst hvp
    have HO := Lib.hid ho4
    have HB := Lib.hid hb3
    have HPS := Lib.hid op'
    have HBX := Lib.hid (And.intro c0 c1)
    clear b2 op ho3 ho4 hb2 hb3 op' c0 c1
    go_wp2_with fail
    go_loopw [5, 7] (fun ov rv wr => ∃ (r : Nat) (q : List (Int × Int)), r ≤ C ∧ rv = .int .i64 (r : Int) ∧ Hid (q = mdOut (fun S r => minN C ll m S.toNat r) ps r) ∧ Hid (OwnD wr (w.heap.size + 1) ov q) ∧ Hid (OwnI wr w.heap.size (.slice ap ps.length capp) ps) ∧ Hid (wr.cell? ⟨w.heap.size, 0, none⟩ = some (.int .i64 (C : Int)) ∧ wr.cell? ⟨w.heap.size, 1, none⟩ = some (.slice a ll.length cap)) ∧ Hid (Below w.heap.size w wr)) (fun _ rv _ => C - (intOf rv).toNat)
    case atStart => exact ⟨0, [], by omega, rfl, Lib.hid rfl, HO, HPS, HBX, HB⟩
    case round =>
      clear HO HPS HBX HB
      obtain ⟨r, q, hr, rfl, hq, HO, HPS, HBX, HB⟩ := hrel
      obtain ⟨w3, hw3⟩ : ∃ w', w' = wr := ⟨_, rfl⟩
      rw [← hw3] at HO HPS HBX HB ⊢
      clear hw3
      obtain ⟨c0, c1⟩ := HBX.out
      by_cases hlt : r < C
      · have HSR := Lib.hid (HSI.out r q)
        have HLR := Lib.hid (HLEI.out r q)
        have hql : q.length ≤ 160 := by
          have h := HLEN.out r
          rw [← hq.out] at h
          have : r * ps.length ≤ 5 * 32 := Nat.mul_le_mul (by omega) hpl
          omega
        have HNX : Hid (mdOut (fun S r => minN C ll m S.toNat r) ps (r + 1) = mdIn (fun S r => minN C ll m S.toNat r) ps r q ps.length) := Lib.hid (by rw [hq.out]; rfl)
        have HQR := Lib.hid (fun (L : Nat) w' hb hL => HQ.out L r w' hb hL (by omega))
        obtain ⟨ov0, hov⟩ : ∃ x, x = u5 := ⟨_, rfl⟩
        rw [← hov] at HO ⊢
        have z0 : (0 : Int) ≤ (r : Int) := by omega
        have z1 : (r : Int) < (C : Int) := by omega
        clear hov hq
        go_wp2_with fail
        go_loopw [5, 8, 9] (fun ov jv _ wr => ∃ (k : Nat) (q2 : List (Int × Int)), k ≤ ps.length ∧ jv = .int .i64 (k : Int) ∧ Hid (q2 = mdIn (fun S r => minN C ll m S.toNat r) ps r q k) ∧ Hid (OwnD wr (w.heap.size + 1) ov q2) ∧ Hid (OwnI wr w.heap.size (.slice ap ps.length capp) ps) ∧ Hid (wr.cell? ⟨w.heap.size, 0, none⟩ = some (.int .i64 (C : Int)) ∧ wr.cell? ⟨w.heap.size, 1, none⟩ = some (.slice a ll.length cap)) ∧ Hid (Below w.heap.size w wr)) (fun _ jv _ _ => ps.length - (intOf jv).toNat)
        case atStart => exact ⟨0, q, by omega, rfl, Lib.hid rfl, HO, HPS, HBX, HB⟩
        case round =>
          clear HO HPS HBX HB c0 c1
          obtain ⟨k, q2, hk, rfl, hq2, HO, HPS, HBX, HB⟩ := hrel
          obtain ⟨w4, hw4⟩ : ∃ w', w' = wr := ⟨_, rfl⟩
          rw [← hw4] at HO HPS HBX HB ⊢
          clear hw4
          by_cases hlt2 : k < ps.length
          · obtain ⟨x, rfl, hx⟩ : ∃ x, ap = some x ∧ w4.cell? (x.add k) = some (.int .i64 (ps.getD k 0)) := by
              obtain ⟨a', cap', hv, hc⟩ := HPS.out.read
              cases hv
              obtain ⟨x, e1, e2⟩ := hc k hlt2
              rw [get_getD ps k hlt2] at e2
              exact ⟨x, e1, e2⟩
            obtain ⟨X, hX, hX32⟩ := HSM.out (ps.getD k 0) (by rw [← get_getD ps k hlt2]; exact List.getElem_mem hlt2)
            have hql2 : q2.length ≤ 1000 := by rw [hq2.out]; have := HLR.out k; omega
            have hS := HSR.out k
            rw [← hq2.out] at hS
            rw [hX] at hx hS
            rw [show ((X : Int)).toNat = X from rfl] at hS
            have HC := Lib.hid (fun w' hb => HQR.out X w' hb hX32)
            obtain ⟨bb, hbb⟩ : ∃ bb, bb = minN C ll m X r := ⟨_, rfl⟩
            rw [← hbb] at HC hS
            have HS := Lib.hid hS
            obtain ⟨c0, c1⟩ := HBX.out
            have hwb := (Below.refl w4.heap.size w4).alloc (Nat.le_refl _) (.cells #[.int .i64 (X : Int), .int .i64 (r : Int)] 35)
            have HB5 := Lib.hid (HB.out.trans (hwb.mono HB.out.size))
            obtain ⟨e0, e1⟩ := zero2 w4 35 (.int .i64 (X : Int)) (.int .i64 (r : Int))
            have ho5 := HO.out.below hwb (fun k hk => (HO.out.lt k hk).2)
            have hp5 := HPS.out.kept hwb (fun k hk => (HPS.out.lt k hk).2)
            have c05 := (hwb.cell (World.block_lt_of_cell? _ _ c0)).trans c0
            have c15 := (hwb.cell (World.block_lt_of_cell? _ _ c1)).trans c1
            have z2 : (0 : Int) ≤ (k : Int) := by omega
            have z3 : (k : Int) < (ps.length : Int) := by omega
            clear hX hbb hS hwb
            cases bb with
            | true =>
              rw [if_pos rfl] at HS
              have HO5 := Lib.hid ho5
              have HP5 := Lib.hid hp5
              clear ho5 hp5
              go_wp2_with fail
              refine (HC.out _ HB5.out).mono ?_
              rintro e w6 ⟨rfl, b6⟩
              replace e0 := (b6.cell (World.block_lt_of_cell? _ _ e0)).trans e0
              replace e1 := (b6.cell (World.block_lt_of_cell? _ _ e1)).trans e1
              have c06 := (b6.cell (World.block_lt_of_cell? _ _ c05)).trans c05
              have c16 := (b6.cell (World.block_lt_of_cell? _ _ c15)).trans c15
              have ho6 := HO5.out.below b6 (fun k hk => (HO5.out.lt k hk).2)
              have hp6 := HP5.out.kept b6 (fun k hk => (HP5.out.lt k hk).2)
              have hb6 := HB5.out.trans (b6.mono HB5.out.size)
              have HO6 := Lib.hid ho6
              clear b6 c0 c1 c05 c15 hx
              go_wp2_with (at_builtin; refine wpList_append_own _ rfl _ _ 24 rfl (w.heap.size + 1) 35 i0 (.agg #[.int .i64 0, .int .i64 0]) 2 16 Tryz.underlying24 HI.out.1 HI.out.2.1 HI.out.2.2.1 HI.out.2.2.2 rfl (by decide) _ _ _ rfl (World.ownsRow.alloc ho6 _) ⟨w6.heap.size, 0, none⟩ 1 1 [.int .i64 (X : Int), .int .i64 (r : Int)] rfl rfl (cell_two_new _ _ _ _) (two_i64 _ _) (by unfold maxLen; omega) (by omega) (by have := hb6.size; simp; omega) ?_; intro v7 w7 hown7 hgrow7 _)
              have ho7 := Lib.hid (OwnD.snoc hown7)
              have ha6 := (Below.refl w6.heap.size w6).alloc (Nat.le_refl _) (.cells #[.int .i64 (X : Int), .int .i64 (r : Int)] 35)
              have hb7 := Lib.hid ((hb6.alloc hb6.size (.cells #[.int .i64 (X : Int), .int .i64 (r : Int)] 35)).grown hgrow7 (by simp; have := hb6.size; omega) (fun k hk => by have := (HO6.out.lt k hk).1; omega))
              have hi6 := hp6.kept ha6 (fun k hk => (hp6.lt k hk).2)
              have hi7 := Lib.hid (hi6.keptBy hgrow7 (fun g hg => dep_apart (World.ownsRow.alloc HO6.out _) hi6 g hg))
              have c7 := Lib.hid (And.intro ((kept_cell hgrow7 (fun g hg => (HO6.out.lt g hg).1) (World.block_lt_of_cell? _ _ ((ha6.cell (World.block_lt_of_cell? _ _ c06)).trans c06)) (Nat.le_refl _)).trans ((ha6.cell (World.block_lt_of_cell? _ _ c06)).trans c06)) ((kept_cell hgrow7 (fun g hg => (HO6.out.lt g hg).1) (World.block_lt_of_cell? _ _ ((ha6.cell (World.block_lt_of_cell? _ _ c16)).trans c16)) (Nat.le_refl _)).trans ((ha6.cell (World.block_lt_of_cell? _ _ c16)).trans c16)))
              clear hown7 hgrow7 hi6 ha6 c06 c16 e0 e1 ho6 hp6 hb6
              go_wp2_with fail
              go_roundw
              case rel => exact ⟨k + 1, _, by omega, by go_num, Lib.hid (by rw [HS.out]), ho7, hi7, c7, hb7⟩
              case measure => simp [intOf]; omega
            | false =>
              rw [if_neg (by decide)] at HS
              have HO5 := Lib.hid ho5
              have HP5 := Lib.hid hp5
              clear ho5 hp5
              go_wp2_with fail
              refine (HC.out _ HB5.out).mono ?_
              rintro e w6 ⟨rfl, b6⟩
              have c06 := (b6.cell (World.block_lt_of_cell? _ _ c05)).trans c05
              have c16 := (b6.cell (World.block_lt_of_cell? _ _ c15)).trans c15
              have ho6 := Lib.hid (HO5.out.below b6 (fun k hk => (HO5.out.lt k hk).2))
              have hp6 := Lib.hid (HP5.out.kept b6 (fun k hk => (HP5.out.lt k hk).2))
              have hb6 := Lib.hid (HB5.out.trans (b6.mono HB5.out.size))
              have c6 := Lib.hid (And.intro c06 c16)
              clear b6 c0 c1 c05 c15 hx c06 c16 e0 e1
              go_wp2_with fail
              go_roundw
              case rel => exact ⟨k + 1, _, by omega, by go_num, Lib.hid (by rw [HS.out]), ho6, hp6, c6, hb6⟩
              case measure => simp [intOf]; omega
          · obtain rfl : k = ps.length := by omega
            have HQ2 := Lib.hid (hq2.out.trans HNX.out.symm)
            go_wp2_with fail
            go_roundw
            case rel => exact ⟨r + 1, _, by omega, by go_num, HQ2, HO, HPS, HBX, HB⟩
            case measure => simp [intOf]; omega
      · obtain rfl : r = C := by omega
        go_wp2_with fail
        go_ret
        exact ⟨_, rfl, by rw [HE.out, ← hq.out]; exact HO.out.base (by omega), HB.out⟩
end
end Go.Proofs.YtnbjcelfdppkcadGreat
