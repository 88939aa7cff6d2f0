/- The draws of FnClosures, by contract. Conditions: as stated. -/
import Derived.Test.YtbldcdlpcidffaaXc38
namespace Go.Proofs.Ytbldcdlpcidffaa
open Go.RowKit

def DrawnNDDT (w : World) (e : Ending) (w' : World) : Prop := ∃ m u q l r vs ts, e = .returned (.tuple #[.int .i64 m, u, .agg #[.int .i64 l, .int .i64 r], vs]) ∧ (-1 ≤ l ∧ l ≤ 33) ∧ (-1 ≤ r ∧ r ≤ 5) ∧ (0 ≤ m ∧ m ≤ 6) ∧ DepsBd q ∧ ReadD w' u q ∧ StepsBd ts ∧ ReadT w' vs ts ∧ Below w.heap.size w w'
theorem OwnT3.set12 {w : World} {B : Nat} {v u : Value} {ts : List (Int × Int × Int)} {p : Addr} (h : OwnT3 w B v ts) (hp : p.block < B) : OwnT3 (w.setCell p u) B v ts := by
  refine World.ownsRow.kept h (grown_cell w p u) ?_
  cases hv : v.ownBlock with
  | none => exact .inl rfl
  | some g =>
    right
    intro e
    cases e
    have := (h.lt _ hv).1
    omega
theorem ownT3_form {w : World} {B : Nat} {v : Value} {ts : List (Int × Int × Int)} (h : OwnT3 w B v ts) : ∃ a c, v = .slice a ts.length c := by
  obtain ⟨a, c, e, -⟩ := h.read
  exact ⟨a, c, e⟩
section
set_option maxRecDepth 20000
set_option maxHeartbeats 3200000
theorem drawImpliesDep_any (W : World) (v : Value) (n : Nat) (hn : n ≤ 1048576) (hcode : CodeAt W v n) (w : World) (hb : Below W.heap.size W w) :
    Calls Try.prog 5 #[v] w (DrawnNDD w) := by
  have hb0 := (Below.refl w.heap.size w).alloc (Nat.le_refl _) (.cells #[.int .i64 0, .int .i64 0] 26)
  have H1 := Lib.hid (l10Dep_any W v n hn hcode (w.alloc (.cells #[.int .i64 0, .int .i64 0] 26)) (hb.trans (hb0.mono hb.size)))
  have HZ0 : Hid (Bx (w.alloc (.cells #[.int .i64 0, .int .i64 0] 26)) w.heap.size 0 0) := Lib.hid (bx_new w 0 0)
  have HB0 := Lib.hid hb0
  obtain ⟨a, cap, rfl⟩ := code_slice hcode
  clear hb0
  go_enter Try.func5, Try.ntmps5
  go_wp2_with fail
  refine H1.out.mono ?_
  rintro e w1 ⟨m, u, q, l, r, rfl, hl, hr, hm, hQ, hL, b1⟩
  have B1 := Lib.hid (HB0.out.trans (b1.mono HB0.out.size))
  have HZ1 := Lib.hid (HZ0.out.keep b1)
  have HL1 := Lib.hid hL
  have HQ := Lib.hid hQ
  clear b1 hL hQ
  go_upto_region 2 with fail
  have hx2 := bx_new w1 l r
  have al := (Below.refl w1.heap.size w1).alloc (Nat.le_refl _) (.cells #[.int .i64 l, .int .i64 r] 26)
  have hz2 := HZ1.out.keep al
  have HB2 := Lib.hid (B1.out.trans (al.mono B1.out.size))
  have HL2 : Hid (OwnD (w1.alloc (.cells #[.int .i64 l, .int .i64 r] 26)) (w.alloc (.cells #[.int .i64 0, .int .i64 0] 26)).heap.size u q) := Lib.hid (HL1.out.below al (fun k hk => (HL1.out.lt k hk).2))
  obtain ⟨w2, hw2⟩ : ∃ w2, w2 = w1.alloc (.cells #[.int .i64 l, .int .i64 r] 26) := ⟨_, rfl⟩
  rw [← hw2] at hx2 hz2 HB2 HL2 ⊢
  obtain ⟨b, hbb⟩ : ∃ b, b = w1.heap.size := ⟨_, rfl⟩
  rw [← hbb] at hx2 ⊢
  clear hw2 hbb al HL1 HZ1 B1
  have hhw : w.heap.size < (w.alloc (.cells #[.int .i64 0, .int .i64 0] 26)).heap.size := by simp
  have c0 := hx2.c0
  have c1 := hx2.c1
  have d0 := hz2.c0
  have d1 := hz2.c1
  have e0 := hz2.f0
  have e1 := hz2.f1
  have hf : DBox ((w2.setCell ⟨w.heap.size, 0, none⟩ (.int .i64 l)).setCell ⟨w.heap.size, 1, none⟩ (.int .i64 r)).drew w.heap.size l r := (DBox.set0 (x := l) (show DBox w2 w.heap.size 0 0 from hz2)).set1 (x := r)
  have HR := Lib.hid hf.cells.1
  have HL := Lib.hid (((HL2.out.set11 (p := ⟨w.heap.size, 0, none⟩) (u := .int .i64 l) hhw).set11 (p := ⟨w.heap.size, 1, none⟩) (u := .int .i64 r) hhw).base (Nat.le_of_lt hhw))
  have HBE : Hid (Below w.heap.size w ((w2.setCell ⟨w.heap.size, 0, none⟩ (.int .i64 l)).setCell ⟨w.heap.size, 1, none⟩ (.int .i64 r)).drew) := Lib.hid (((HB2.out.setCell (p := ⟨w.heap.size, 0, none⟩) (Nat.le_refl _) (.int .i64 l)).setCell (p := ⟨w.heap.size, 1, none⟩) (Nat.le_refl _) (.int .i64 r)).trans (Below.refl _ _).drew)
  have HLD : Hid (OwnD ((w2.setCell ⟨w.heap.size, 0, none⟩ (.int .i64 l)).setCell ⟨w.heap.size, 1, none⟩ (.int .i64 r)).drew w.heap.size u q) := Lib.hid (HL.out.below (Below.refl _ _).drew (fun k hk => (HL.out.lt k hk).2))
  clear hf hx2 hz2 HL2 hhw
  go_region
  all_goals (go_wp2_with fail)
  all_goals exact bodyPost_ret (v := .tuple #[.int .i64 m, u, .agg #[.int .i64 l, .int .i64 r]]) (by simp [results, Try.results5, go_sem, HR.out.1, HR.out.2]) rfl ⟨m, u, q, l, r, rfl, hl, hr, hm, HQ.out, HLD.out, HBE.out⟩
theorem drawCheckDer_any (W : World) (v : Value) (n : Nat) (hn : n ≤ 1048576) (hcode : CodeAt W v n) (w : World) (hb : Below W.heap.size W w) :
    Calls Try.prog 19 #[v] w (DrawnNDDT w) := by
  have hb0 := (Below.refl w.heap.size w).alloc (Nat.le_refl _) (.cells #[.int .i64 0, .int .i64 0] 26)
  have H1 := Lib.hid (l10Dep_any W v n hn hcode (w.alloc (.cells #[.int .i64 0, .int .i64 0] 26)) (hb.trans (hb0.mono hb.size)))
  have HZ0 : Hid (Bx (w.alloc (.cells #[.int .i64 0, .int .i64 0] 26)) w.heap.size 0 0) := Lib.hid (bx_new w 0 0)
  have HB0 := Lib.hid hb0
  obtain ⟨a, cap, rfl⟩ := code_slice hcode
  clear hb0
  go_enter Try.func19, Try.ntmps19
  go_wp2_with fail
  refine H1.out.mono ?_
  rintro e w1 ⟨m, u, q, l, r, rfl, hl, hr, hm, hQ, hL, b1⟩
  have B1 := Lib.hid (HB0.out.trans (b1.mono HB0.out.size))
  have HZ1 := Lib.hid (HZ0.out.keep b1)
  have HL1 := Lib.hid hL
  have HQ := Lib.hid hQ
  clear b1 hL hQ
  go_upto_region 2 with fail
  have hx2 := bx_new w1 l r
  have al := (Below.refl w1.heap.size w1).alloc (Nat.le_refl _) (.cells #[.int .i64 l, .int .i64 r] 26)
  have hz2 := HZ1.out.keep al
  have HB2 := Lib.hid (B1.out.trans (al.mono B1.out.size))
  have HL2 : Hid (OwnD (w1.alloc (.cells #[.int .i64 l, .int .i64 r] 26)) (w.alloc (.cells #[.int .i64 0, .int .i64 0] 26)).heap.size u q) := Lib.hid (HL1.out.below al (fun k hk => (HL1.out.lt k hk).2))
  obtain ⟨w2, hw2⟩ : ∃ w2, w2 = w1.alloc (.cells #[.int .i64 l, .int .i64 r] 26) := ⟨_, rfl⟩
  rw [← hw2] at hx2 hz2 HB2 HL2 ⊢
  obtain ⟨b, hbb⟩ : ∃ b, b = w1.heap.size := ⟨_, rfl⟩
  rw [← hbb] at hx2 ⊢
  clear hw2 hbb al HL1 HZ1 B1
  have HX2 := Lib.hid hx2
  have HZ2 := Lib.hid hz2
  have c0 := hx2.c0
  have c1 := hx2.c1
  have HDE := Lib.hid (fun w' (hv : ReadD w' u q) => deriveDep10_any u m l r q w' hv (by have := HQ.out.1; omega))
  have HTS := Lib.hid (der_steps m q (l, r))
  obtain ⟨ts, hts⟩ : ∃ ts, ts = derL m q (l, r) := ⟨_, rfl⟩
  obtain ⟨is, his⟩ : ∃ is, is = impB m q (l, r) := ⟨_, rfl⟩
  rw [← hts] at HDE HTS
  rw [← his] at HDE
  clear hx2 hz2 hts his
  have hhw : w.heap.size < (w.alloc (.cells #[.int .i64 0, .int .i64 0] 26)).heap.size := by simp
  have hhw2 : w.heap.size < w2.heap.size := World.block_lt_of_cell? _ _ HZ2.out.c0
  obtain ⟨au, cu, hu, -⟩ := HL2.out.read
  subst hu
  have HD3 := Lib.hid (HDE.out w2 HL2.out.read)
  clear HDE
  go_wp2_with fail
  refine HD3.out.mono ?_
  rintro e w3 ⟨vs, rfl, o3, b3⟩
  have HXK := Lib.hid (HX2.out.keep b3)
  have HZK := Lib.hid (HZ2.out.keep b3)
  have HLK := Lib.hid (HL2.out.below b3 (fun k hk => (HL2.out.lt k hk).2))
  have HBK := Lib.hid (HB2.out.trans (b3.mono HB2.out.size))
  have HTK := Lib.hid o3
  have HW := Lib.hid (hb.trans (HBK.out.mono hb.size))
  have hhb : b < w2.heap.size := World.block_lt_of_cell? _ _ HX2.out.c0
  have HLT := Lib.hid (fun k hk => (HL2.out.lt k hk).2)
  clear b3 HX2 HZ2 HL2 HB2 c0 c1 o3
  by_cases h4 : 3 < n
  · obtain ⟨x, rfl, hc⟩ : ∃ x, a = some x ∧ ∀ i, i < n → ∃ y : Int, 0 ≤ y ∧ y ≤ 255 ∧ w3.cell? (x.add i) = some (.int .u8 y) := by
      rcases hcode with ⟨e, h0⟩ | ⟨x, cap', e, -, hc⟩
      · omega
      · cases e
        exact ⟨x, rfl, fun i hi => by
          obtain ⟨y, y0, y1, h⟩ := hc i hi
          exact ⟨y, y0, y1, (HW.out.cell (World.block_lt_of_cell? _ _ h)).trans h⟩⟩
    obtain ⟨k3, k30, k31, h3⟩ := hc 3 h4
    obtain ⟨k2, k20, k21, h2⟩ := hc 2 (by omega)
    have h4' : (3 : Int) < (n : Int) := by omega
    replace h3 : w3.cell? ⟨x.block, x.off + 3, none⟩ = some (.int .u8 k3) := h3
    replace h2 : w3.cell? ⟨x.block, x.off + 2, none⟩ = some (.int .u8 k2) := h2
    clear hc
    by_cases hk : k3 % 4 = 0
    · by_cases ht : 0 < ts.length
      · obtain ⟨t, rs, rfl⟩ : ∃ t rs, ts = t :: rs := by
          cases ts with
          | nil => exact absurd ht (Nat.lt_irrefl 0)
          | cons t rs => exact ⟨t, rs, rfl⟩
        obtain ⟨g, kv, rfl, hg⟩ : ∃ g kv, vs = .slice (some ⟨g, 0, none⟩) (t :: rs).length kv ∧ w2.heap.size ≤ g := by
          rcases HTK.out.2 with ⟨-, h0⟩ | ⟨g, cap', cur, e, hB, -⟩
          · cases h0
          · exact ⟨g, cap', e, hB⟩
        have s0 := (HTK.out.cells3 0 ht).1.1
        have f0 := (HTK.out.cells3 0 ht).2.1
        rw [Nat.zero_mul] at s0 f0
        have hst := (World.ownsRow.stored HTK.out 0 (.int .i64 (k2 % 6 - 1))).1
        have HTK4 : Hid (OwnT3 (w3.setCell ⟨g, 0, none⟩ (.int .i64 (k2 % 6 - 1))) w2.heap.size (.slice (some ⟨g, 0, none⟩) (t :: rs).length kv) ((k2 % 6 - 1, t.2) :: rs)) := Lib.hid hst
        have HS4 : Hid (StepsBd ((k2 % 6 - 1, t.2) :: rs)) := Lib.hid ⟨HTS.out.1, fun z hz => by
          rcases List.mem_cons.1 hz with rfl | hz
          · have := HTS.out.2 t List.mem_cons_self
            exact ⟨⟨(show -1 ≤ k2 % 6 - 1 by omega), (show k2 % 6 - 1 ≤ 20 by omega)⟩, this.2⟩
          · exact HTS.out.2 z (List.mem_cons_of_mem _ hz)⟩
        have bS : Below w2.heap.size w3 (w3.setCell ⟨g, 0, none⟩ (.int .i64 (k2 % 6 - 1))) := (Below.refl w2.heap.size w3).setCell (p := ⟨g, 0, none⟩) hg _
        have HXK4 : Hid (Bx (w3.setCell ⟨g, 0, none⟩ (.int .i64 (k2 % 6 - 1))) b l r) := Lib.hid ((bS.block b hhb).trans HXK.out)
        have HZK4 : Hid (Bx (w3.setCell ⟨g, 0, none⟩ (.int .i64 (k2 % 6 - 1))) w.heap.size 0 0) := Lib.hid ((bS.block w.heap.size hhw2).trans HZK.out)
        have HLK4 := Lib.hid (HLK.out.below bS HLT.out)
        have HBK4 := Lib.hid (HBK.out.setCell (p := ⟨g, 0, none⟩) (by show w.heap.size ≤ g; omega) (.int .i64 (k2 % 6 - 1)))
        clear hst bS HTK HXK HZK HLK HBK hcode
        obtain ⟨w4, hw4⟩ : ∃ w4, w4 = w3.setCell ⟨g, 0, none⟩ (.int .i64 (k2 % 6 - 1)) := ⟨_, rfl⟩
        rw [← hw4] at HTK4 HXK4 HZK4 HLK4 HBK4
        have c0 := HXK4.out.c0
        have c1 := HXK4.out.c1
        go_upto_region 5 with fail
        rw [← hw4]
        clear hw4 c0 c1 s0 f0 h2 h3 hhb hg
        obtain ⟨HXK, HZK, HLK, HBK, HTK⟩ := And.intro HXK4 (And.intro HZK4 (And.intro HLK4 (And.intro HBK4 HTK4)))
        clear HXK4 HZK4 HLK4 HBK4 HTK4
        have c0 := HXK.out.c0
        have c1 := HXK.out.c1
        have d0 := HZK.out.c0
        have d1 := HZK.out.c1
        have e0 := HZK.out.f0
        have e1 := HZK.out.f1
        have hf : DBox ((w4.setCell ⟨w.heap.size, 0, none⟩ (.int .i64 l)).setCell ⟨w.heap.size, 1, none⟩ (.int .i64 r)).drew w.heap.size l r := (DBox.set0 (x := l) (show DBox w4 w.heap.size 0 0 from HZK.out)).set1 (x := r)
        have HR := Lib.hid hf.cells.1
        have HLE := Lib.hid ((HLK.out.set11 (p := ⟨w.heap.size, 0, none⟩) (u := .int .i64 l) hhw).set11 (p := ⟨w.heap.size, 1, none⟩) (u := .int .i64 r) hhw)
        have HTE := Lib.hid ((HTK.out.set12 (p := ⟨w.heap.size, 0, none⟩) (u := .int .i64 l) hhw2).set12 (p := ⟨w.heap.size, 1, none⟩) (u := .int .i64 r) hhw2)
        have HBE : Hid (Below w.heap.size w ((w4.setCell ⟨w.heap.size, 0, none⟩ (.int .i64 l)).setCell ⟨w.heap.size, 1, none⟩ (.int .i64 r)).drew) := Lib.hid (((HBK.out.setCell (p := ⟨w.heap.size, 0, none⟩) (Nat.le_refl _) (.int .i64 l)).setCell (p := ⟨w.heap.size, 1, none⟩) (Nat.le_refl _) (.int .i64 r)).trans (Below.refl _ _).drew)
        have HLD := Lib.hid (HLE.out.read.kept (Below.refl _ _).drew)
        have HTD := Lib.hid (HTE.out.read.kept (Below.refl _ _).drew)
        clear hf
        go_region
        all_goals (go_wp2_with fail)
        all_goals exact bodyPost_ret (v := .tuple #[.int .i64 m, .slice au q.length cu, .agg #[.int .i64 l, .int .i64 r], .slice (some ⟨g, 0, none⟩) (t :: rs).length kv]) (by simp [results, Try.results19, go_sem, HR.out.1, HR.out.2]) rfl ⟨m, _, q, l, r, _, _, rfl, hl, hr, hm, HQ.out, HLD.out, HS4.out, HTD.out, HBE.out⟩
      · obtain ⟨pv, kv, rfl⟩ := ownT3_form HTK.out
        have c0 := HXK.out.c0
        have c1 := HXK.out.c1
        have d0 := HZK.out.c0
        have d1 := HZK.out.c1
        have e0 := HZK.out.f0
        have e1 := HZK.out.f1
        have hf : DBox ((w3.setCell ⟨w.heap.size, 0, none⟩ (.int .i64 l)).setCell ⟨w.heap.size, 1, none⟩ (.int .i64 r)).drew w.heap.size l r := (DBox.set0 (x := l) (show DBox w3 w.heap.size 0 0 from HZK.out)).set1 (x := r)
        have HR := Lib.hid hf.cells.1
        have HLE := Lib.hid ((HLK.out.set11 (p := ⟨w.heap.size, 0, none⟩) (u := .int .i64 l) hhw).set11 (p := ⟨w.heap.size, 1, none⟩) (u := .int .i64 r) hhw)
        have HTE := Lib.hid ((HTK.out.set12 (p := ⟨w.heap.size, 0, none⟩) (u := .int .i64 l) hhw2).set12 (p := ⟨w.heap.size, 1, none⟩) (u := .int .i64 r) hhw2)
        have HBE : Hid (Below w.heap.size w ((w3.setCell ⟨w.heap.size, 0, none⟩ (.int .i64 l)).setCell ⟨w.heap.size, 1, none⟩ (.int .i64 r)).drew) := Lib.hid (((HBK.out.setCell (p := ⟨w.heap.size, 0, none⟩) (Nat.le_refl _) (.int .i64 l)).setCell (p := ⟨w.heap.size, 1, none⟩) (Nat.le_refl _) (.int .i64 r)).trans (Below.refl _ _).drew)
        have HLD := Lib.hid (HLE.out.read.kept (Below.refl _ _).drew)
        have HTD := Lib.hid (HTE.out.read.kept (Below.refl _ _).drew)
        clear hf
        go_wp2_with fail
        go_region
        all_goals (go_wp2_with fail)
        all_goals exact bodyPost_ret (v := .tuple #[.int .i64 m, .slice au q.length cu, .agg #[.int .i64 l, .int .i64 r], .slice pv ts.length kv]) (by simp [results, Try.results19, go_sem, HR.out.1, HR.out.2]) rfl ⟨m, _, q, l, r, _, ts, rfl, hl, hr, hm, HQ.out, HLD.out, HTS.out, HTD.out, HBE.out⟩
    · obtain ⟨pv, kv, rfl⟩ := ownT3_form HTK.out
      have c0 := HXK.out.c0
      have c1 := HXK.out.c1
      have d0 := HZK.out.c0
      have d1 := HZK.out.c1
      have e0 := HZK.out.f0
      have e1 := HZK.out.f1
      have hf : DBox ((w3.setCell ⟨w.heap.size, 0, none⟩ (.int .i64 l)).setCell ⟨w.heap.size, 1, none⟩ (.int .i64 r)).drew w.heap.size l r := (DBox.set0 (x := l) (show DBox w3 w.heap.size 0 0 from HZK.out)).set1 (x := r)
      have HR := Lib.hid hf.cells.1
      have HLE := Lib.hid ((HLK.out.set11 (p := ⟨w.heap.size, 0, none⟩) (u := .int .i64 l) hhw).set11 (p := ⟨w.heap.size, 1, none⟩) (u := .int .i64 r) hhw)
      have HTE := Lib.hid ((HTK.out.set12 (p := ⟨w.heap.size, 0, none⟩) (u := .int .i64 l) hhw2).set12 (p := ⟨w.heap.size, 1, none⟩) (u := .int .i64 r) hhw2)
      have HBE : Hid (Below w.heap.size w ((w3.setCell ⟨w.heap.size, 0, none⟩ (.int .i64 l)).setCell ⟨w.heap.size, 1, none⟩ (.int .i64 r)).drew) := Lib.hid (((HBK.out.setCell (p := ⟨w.heap.size, 0, none⟩) (Nat.le_refl _) (.int .i64 l)).setCell (p := ⟨w.heap.size, 1, none⟩) (Nat.le_refl _) (.int .i64 r)).trans (Below.refl _ _).drew)
      have HLD := Lib.hid (HLE.out.read.kept (Below.refl _ _).drew)
      have HTD := Lib.hid (HTE.out.read.kept (Below.refl _ _).drew)
      clear hf
      go_wp2_with fail
      go_region
      all_goals (go_wp2_with fail)
      all_goals exact bodyPost_ret (v := .tuple #[.int .i64 m, .slice au q.length cu, .agg #[.int .i64 l, .int .i64 r], .slice pv ts.length kv]) (by simp [results, Try.results19, go_sem, HR.out.1, HR.out.2]) rfl ⟨m, _, q, l, r, _, ts, rfl, hl, hr, hm, HQ.out, HLD.out, HTS.out, HTD.out, HBE.out⟩
  · have h4' : ¬ ((3 : Int) < (n : Int)) := by omega
    obtain ⟨pv, kv, rfl⟩ := ownT3_form HTK.out
    have c0 := HXK.out.c0
    have c1 := HXK.out.c1
    have d0 := HZK.out.c0
    have d1 := HZK.out.c1
    have e0 := HZK.out.f0
    have e1 := HZK.out.f1
    have hf : DBox ((w3.setCell ⟨w.heap.size, 0, none⟩ (.int .i64 l)).setCell ⟨w.heap.size, 1, none⟩ (.int .i64 r)).drew w.heap.size l r := (DBox.set0 (x := l) (show DBox w3 w.heap.size 0 0 from HZK.out)).set1 (x := r)
    have HR := Lib.hid hf.cells.1
    have HLE := Lib.hid ((HLK.out.set11 (p := ⟨w.heap.size, 0, none⟩) (u := .int .i64 l) hhw).set11 (p := ⟨w.heap.size, 1, none⟩) (u := .int .i64 r) hhw)
    have HTE := Lib.hid ((HTK.out.set12 (p := ⟨w.heap.size, 0, none⟩) (u := .int .i64 l) hhw2).set12 (p := ⟨w.heap.size, 1, none⟩) (u := .int .i64 r) hhw2)
    have HBE : Hid (Below w.heap.size w ((w3.setCell ⟨w.heap.size, 0, none⟩ (.int .i64 l)).setCell ⟨w.heap.size, 1, none⟩ (.int .i64 r)).drew) := Lib.hid (((HBK.out.setCell (p := ⟨w.heap.size, 0, none⟩) (Nat.le_refl _) (.int .i64 l)).setCell (p := ⟨w.heap.size, 1, none⟩) (Nat.le_refl _) (.int .i64 r)).trans (Below.refl _ _).drew)
    have HLD := Lib.hid (HLE.out.read.kept (Below.refl _ _).drew)
    have HTD := Lib.hid (HTE.out.read.kept (Below.refl _ _).drew)
    clear hf
    go_wp2_with fail
    go_region
    all_goals (go_wp2_with fail)
    all_goals exact bodyPost_ret (v := .tuple #[.int .i64 m, .slice au q.length cu, .agg #[.int .i64 l, .int .i64 r], .slice pv ts.length kv]) (by simp [results, Try.results19, go_sem, HR.out.1, HR.out.2]) rfl ⟨m, _, q, l, r, _, ts, rfl, hl, hr, hm, HQ.out, HLD.out, HTS.out, HTD.out, HBE.out⟩
end
end Go.Proofs.Ytbldcdlpcidffaa
