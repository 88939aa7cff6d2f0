/- The program's (Search).continued, by contract. Conditions: as stated. -/
import Derived.Test.YtjfllfancgmalaaGreatSc16
import Derived.Test.YtjfllfancgmalaaGreatSc20
import Derived.Deep.LoopGhost
import Derived.WalkMore
namespace Go.Proofs.YtjfllfancgmalaaGreat
open Go.RowKit

theorem partZ_cv (e0 e1 x r : Nat) (h0 : e0 < 32) : covB ((e0 : Int), (e1 : Int)) ((x : Int), (r : Int)) = ((((e0 : Int), (e1 : Int)) : Int × Int).2 == (((x : Int), (r : Int)) : Int × Int).2 && (bits .and .i64 (e0 : Int) (x : Int) == (e0 : Int))) := by
  unfold covB
  rw [partZ_eq _ _ (by show (-9223372036854775808 : Int) ≤ (e0 : Int); omega) (by show (e0 : Int) ≤ 9223372036854775807; omega)]
  rfl
theorem wf_small (x : Nat) (h : x < 1000) : (Lit.int .i64 (x : Int)).wf = true := by
  have k1 : ∀ X : Fin 1000, (Lit.int .i64 ((X.val : Nat) : Int)).wf = true := by decide +kernel
  exact k1 ⟨x, h⟩
/-- What is found among the first candidates is small. -/
theorem repN_mem {C : Nat} {ll : List (List Int)} {m : Int} (hC1 : 1 ≤ C) (hC : C ≤ 5) {k : Nat} (hk : k ≤ C * 2 ^ C) : ∀ d ∈ (repN C ll m k).1, ∃ x r : Nat, d = ((x : Int), (r : Int)) ∧ x < 32 ∧ r < C := by
  intro d hd
  rw [repN_found hC1 hC k hk, List.mem_filter, List.mem_map] at hd
  obtain ⟨⟨j, hj, rfl⟩, -⟩ := hd
  obtain ⟨x, r, e, hx, hr⟩ := cdt_ok hC1 hC (k := j) (by have := List.mem_range.1 hj; omega)
  have := two5 hC
  exact ⟨x, r, e, by omega, hr⟩
theorem ord_at {w : World} {B n c : Nat} {ad : Option Addr} {l : List (Int × Int)} (h : OwnD w B (.slice ad n c) l) {k : Nat} (hk : k < l.length) : ∃ b o, ad = some ⟨b, o, none⟩ ∧ w.cell? ⟨b, o + k * 2, none⟩ = some (.int .i64 (l.getD k (0, 0)).1) ∧ w.cell? ⟨b, o + k * 2 + 1, none⟩ = some (.int .i64 (l.getD k (0, 0)).2) := by
  obtain ⟨a, c', hv, hc⟩ := h.read
  cases hv
  exact hc k hk
section
set_option maxRecDepth 40000
set_option maxHeartbeats 3200000
theorem continued_any (C K : Nat) (m E0 b : Int) (v f : Value) (ll : List (List Int)) (F0 : List (Int × Int)) (n0 : Nat) (w : World) (hr : ReadSS w v ll) (hf : ReadD w f F0) (hT : fineT (C : Int) ll m = true) (hK : K ≤ C * 2 ^ C)
    (hF0 : repN C ll m K = (F0, n0)) (k9 : Nat) (F9 : List (Int × Int)) (n9 : Nat) (hE9 : goN C ll m n0 (if ((C * 2 ^ C : Nat) : Int) < E0 then ((C * 2 ^ C : Nat) : Int) else E0) b (C * 2 ^ C - K) K = k9) (hF9 : repN C ll m k9 = (F9, n9)) :
    Calls Tryz.prog 28 #[srcV (C : Int) v m (K : Int) f (n0 : Int), .int .i64 E0, .int .i64 b] w (RetSea (C : Int) m (k9 : Int) (n9 : Int) ll F9 w) := by
  obtain ⟨i0, hi, hz0, hz1, hz2⟩ := info_parts infoDp
  have HI : Hid (_ ∧ _ ∧ _ ∧ _) := Lib.hid ⟨hi, hz0, hz1, hz2⟩
  clear hi hz0 hz1 hz2
  have hTT := fineT_isT hT
  obtain ⟨hc1, hc5, h40⟩ := isT_bd hTT
  have hC1 : 1 ≤ C := by omega
  have hC5 : C ≤ 5 := by omega
  have hlen : ll.length ≤ 1048576 := by omega
  have hrows : ∀ i, i < ll.length → (ll.getD i []).length ≤ 1048576 := fun i hi => by have := (isT_row hTT hi).1; omega
  have hN160 : C * 2 ^ C ≤ 160 := by
    have h32 := two5 hC5
    have : C * 2 ^ C ≤ 5 * 32 := Nat.mul_le_mul hC5 h32
    omega
  have HLN := Lib.hid (repN_len C ll m)
  have hF0l : F0.length ≤ 160 := by have := HLN.out K; rw [hF0] at this; simp only at this; omega
  have HCP := Lib.hid (fun w' (hb : Below w.heap.size w w') => seaCopied_any (C : Int) m (K : Int) (n0 : Int) v f ll F0 w' (hr.kept hb) hlen hrows (hf.kept hb) (by omega))
  have HHD := Lib.hid (fun (x r : Nat) (u : Value) w' (hu : ReadSS w' u ll) (hx : x < 2 ^ C) (hr : r < C) => (holds_h7 hT hC1 hC5 hx hr ▸ implHoldsDep_any (C : Int) m (x : Int) (r : Int) u ll (by unfold fineT modeOk at hT; simp at hT; rcases hT.2 with rfl | rfl <;> rfl) (by have := two5 hC5; exact wf_small x (by omega)) (wf_small r (by omega)) w' hu hlen hrows :))
  have HOK := Lib.hid (fun k (hk : k < C * 2 ^ C) => cdt_ok (C := C) (k := k) hC1 hC5 hk)
  have HMEM := Lib.hid (fun k (hk : k ≤ C * 2 ^ C) => repN_mem (ll := ll) (m := m) hC1 hC5 hk)
  have HSU := Lib.hid (repN_succ C ll m)
  have HGE := Lib.hid (cdL_get C)
  have HCD := Lib.hid (fun (a af : Option Addr) (n1 n2 cap capf : Nat) w' => cands_any C hC1 hC5 m (K : Int) (n0 : Int) a af n1 n2 cap capf w')
  have HLL := Lib.hid (cdL_len C (C * 2 ^ C))
  obtain ⟨N, hN⟩ : ∃ N, N = C * 2 ^ C := ⟨_, rfl⟩
  rw [← hN] at HOK HMEM HCD HLL hE9 hK hN160
  obtain ⟨E, hE⟩ : ∃ E, (if ((N : Nat) : Int) < E0 then ((N : Nat) : Int) else E0) = E := ⟨_, rfl⟩
  have hEN : E ≤ (N : Int) := by rw [← hE]; split <;> omega
  rw [hE] at hE9
  have HMIN : Hid (∀ W : World, (Builtin.min_ #[3, 3] 3 #[.int .i64 E0, .int .i64 (N : Int)]).run Tryz.prog W = .ok (.int .i64 E) W) := Lib.hid (fun W => by rw [run_min_int2, hE])
  have HE9 := Lib.hid hE9
  have HF9 := Lib.hid hF9
  have HF0 := Lib.hid hF0
  have HGS := Lib.hid (fun k h1 h2 h3 => goN_step (C := C) (ll := ll) (m := m) (t0 := (n0 : Int)) (E := E) (b := b) (N := N) (k := k) h1 h2 h3)
  have HGT := Lib.hid (fun f k h => goN_stop (C := C) (ll := ll) (m := m) (t0 := (n0 : Int)) (E := E) (b := b) (f := f) (k := k) h)
  have HNN := Lib.hid hN
  obtain ⟨a, cap, rfl, -⟩ := hr
  obtain ⟨af, capf, rfl, -⟩ := hf
  obtain ⟨hx, hy, hb⟩ := SBI.pair w (.int .i64 (C : Int)) (.slice a ll.length cap) (.int .i64 m) (.int .i64 (K : Int)) (.slice af F0.length capf) (.int .i64 (n0 : Int)) (.int .i64 0) (.slice none 0 0) (.int .i64 0) (.int .i64 0) (.slice none 0 0) (.int .i64 0)
  have HX := Lib.hid hx
  have HY := Lib.hid hy
  have HB := Lib.hid hb
  obtain ⟨⟨c0, c1, c2, c3, c4, c5⟩, -⟩ := HX.out.cells
  unfold srcV at HCP HCD ⊢
  clear hx hy hb hE hE9 hF9 hF0 hT hTT hc1 hc5 h40 hrows hN
  go_enter Tryz.func28, Tryz.ntmps28
  go_wp2_with fail
  go_step3
  go_wp2_with fail
  refine (HCP.out _ HB.out).mono ?_
  rintro e w1 ⟨u, g, Cc, rfl, ou, og, hc1, hc2, b1⟩
  unfold srcV
  have HB1 := Lib.hid (HB.out.trans (b1.mono HB.out.size))
  have HX1 := HX.out.kept b1
  have HY1 := HY.out.kept b1
  have hlt := HY.out.lt
  obtain ⟨au, capu, rfl, -⟩ := ou.read
  obtain ⟨ag, capg, rfl⟩ := og.shape
  have hp := (Below.refl w1.heap.size w1).alloc (Nat.le_refl _) (.cells #[.int .i64 (C : Int), .slice au ll.length capu, .int .i64 m, .int .i64 (K : Int), .slice ag F0.length capg, .int .i64 (n0 : Int)] 29)
  have hn2 := SBI.new w1 (.int .i64 (C : Int)) (.slice au ll.length capu) (.int .i64 m) (.int .i64 (K : Int)) (.slice ag F0.length capg) (.int .i64 (n0 : Int))
  have HN2 := Lib.hid hn2
  have HX2 := Lib.hid (HX1.kept hp)
  have HY2 := Lib.hid (HY1.kept hp)
  have HU2 := Lib.hid (ou.same (Below.keeps hp (by omega)))
  have HG2 := Lib.hid (og.below hp (fun q hq => (og.lt q hq).2))
  have HB2 := Lib.hid (HB1.out.trans (hp.mono HB1.out.size))
  have HSZ : Hid (w.heap.size + 1 < ((w.alloc (.cells #[.int .i64 (C : Int), .slice a ll.length cap, .int .i64 m, .int .i64 (K : Int), .slice af F0.length capf, .int .i64 (n0 : Int)] 29)).alloc (.cells #[.int .i64 0, .slice none 0 0, .int .i64 0, .int .i64 0, .slice none 0 0, .int .i64 0] 29)).heap.size ∧ _ ∧ _) := Lib.hid ⟨hlt, hc1, hc2⟩
  clear c0 c1 c2 c3 c4 c5
  obtain ⟨⟨c0, c1, c2, c3, c4, c5⟩, -⟩ := HX2.out.cells
  clear hp hn2 hlt ou og HX1 HY1 b1 hc1 hc2
  go_wp2_with fail
  refine (HCD.out _ _ _ _ _ _ _).mono ?_
  rintro e w2 ⟨ov, rfl, oo, b2⟩
  rw [World.size_alloc] at oo
  have hb3 := HB2.out.trans (b2.mono HB2.out.size)
  obtain ⟨ad, cpd, hov⟩ := oo.shape
  rw [HLL.out] at hov
  have hct : Ct w C m (.slice a ll.length cap) (.slice af F0.length capf) K (n0 : Int) (.slice au ll.length capu) ll ov (cdL C N) w1.heap.size _ Cc K (.slice ag F0.length capg) F0 (n0 : Int) w2 :=
    ⟨HN2.out.kept b2, HX2.out.kept b2, HY2.out.kept b2, HU2.out.same (Below.keeps b2 (by rw [World.size_alloc]; have := HSZ.out.2.2; omega)), HG2.out.below b2 (fun q hq => (HG2.out.lt q hq).2), oo, fun q hq e => by
      have h1 := (oo.lt q hq).1
      have h2 := (HG2.out.lt q e).2
      rw [World.size_alloc] at h2
      omega, hb3, ⟨HSZ.out.1, HSZ.out.2.1, HSZ.out.2.2, by have := b2.size; rw [World.size_alloc] at this; omega⟩⟩
  subst hov
  have HCT := Lib.hid hct
  obtain ⟨p, hp⟩ : ∃ p, p = w1.heap.size := ⟨_, rfl⟩
  rw [← hp] at HCT ⊢
  obtain ⟨Bt, hBt⟩ : ∃ Bt, Bt = ((w.alloc (.cells #[.int .i64 (C : Int), .slice a ll.length cap, .int .i64 m, .int .i64 (K : Int), .slice af F0.length capf, .int .i64 (n0 : Int)] 29)).alloc (.cells #[.int .i64 0, .slice none 0 0, .int .i64 0, .int .i64 0, .slice none 0 0, .int .i64 0] 29)).heap.size := ⟨_, rfl⟩
  rw [← hBt] at HCT
  have HMN := HMIN.out
  clear hct hb3 oo b2 c0 c1 c2 c3 c4 c5 HN2 HX2 HY2 HU2 HG2 HB2 HSZ HX HY HB HB1 HCP HCD HMIN hp hBt
  go_wp2_with fail
  go_step3
  go_wp2_with fail
  go_loopg [] (N - K) (fun n wr => ∃ (k t : Nat) (g : Value) (q : List (Int × Int)), n = N - k ∧ k ≤ N ∧ Hid (repN C ll m k = (q, t)) ∧ Hid (goN C ll m n0 E b (N - k) k = k9) ∧
    Hid (Ct w C m (.slice a ll.length cap) (.slice af F0.length capf) K (n0 : Int) (.slice au ll.length capu) ll (.slice ad N cpd) (cdL C N) p Bt Cc k g q (t : Int) wr))
  case atStart => exact ⟨K, n0, _, F0, rfl, hK, HF0, HE9, HCT⟩
  case round =>
    clear HCT
    obtain ⟨k, t, g, q, rfl, hkN, HQ, HG, HCT⟩ := hrel
    obtain ⟨w3, hw3⟩ : ∃ w', w' = wr := ⟨_, rfl⟩
    rw [← hw3] at HCT ⊢
    clear hw3
    have hln := HLN.out k
    rw [HQ.out] at hln
    obtain ⟨hl1, hl2⟩ := hln
    simp only at hl1 hl2
    have hn0k : n0 ≤ 160 := by have := (HLN.out K).2; rw [HF0.out] at this; simp only at this; omega
    have hwr : IntKind.i64.wrap ((t : Int) - (n0 : Int)) = (t : Int) - (n0 : Int) := IntWalk.i64_in _ (by omega)
    obtain ⟨ag', capg', rfl⟩ := HCT.out.fnd.shape
    obtain ⟨⟨c0, c1, c2, c3, c4, c5⟩, f0, f1, f2, f3, f4, f5⟩ := HCT.out.nx.cells
    obtain ⟨⟨d0, d1, d2, d3, d4, d5⟩, -⟩ := HCT.out.sb.cells
    by_cases hlt : (k : Int) < E
    · by_cases hbu : (t : Int) - (n0 : Int) < b
      · have hkN' : k < N := by omega
        have HG2 := Lib.hid (HG.out.symm.trans (HGS.out k hkN' hlt (by rw [HQ.out]; exact hbu))).symm
        obtain ⟨x, r, e, hx, hr5⟩ := HOK.out k hkN'
        have hS := HSU.out k
        rw [HQ.out, e] at hS
        simp only [Int.toNat_natCast] at hS
        obtain ⟨ob, oo, had, o0, o1⟩ := ord_at HCT.out.ord (k := k) (by rw [HLL.out]; exact hkN')
        subst had
        rw [HGE.out N k hkN', e] at o0 o1
        simp only at o0 o1
        have z0 : (0 : Int) ≤ (k : Int) := by omega
        have z1 : (k : Int) < (N : Int) := by omega
        have hk1 : IntKind.i64.wrap ((k : Int) + 1) = (k : Int) + 1 := IntWalk.i64_in _ (by omega)
        have ht1 : IntKind.i64.wrap ((t : Int) + 1) = (t : Int) + 1 := IntWalk.i64_in _ (by omega)
        have hal := (Below.refl w3.heap.size w3).alloc (Nat.le_refl _) (.cells #[.int .i64 (x : Int), .int .i64 (r : Int)] 38)
        have HCT4 := Lib.hid (HCT.out.below hal)
        have HD4 := Lib.hid (zero2 w3 38 (.int .i64 (x : Int)) (.int .i64 (r : Int)))
        obtain ⟨bd, hbd⟩ : ∃ bd, bd = w3.heap.size := ⟨_, rfl⟩
        obtain ⟨W4, hW4⟩ : ∃ W4, W4 = w3.alloc (.cells #[.int .i64 (x : Int), .int .i64 (r : Int)] 38) := ⟨_, rfl⟩
        rw [← hW4, ← hbd] at HD4
        rw [← hW4] at HCT4
        obtain ⟨e0, e1⟩ := zero2 w3 38 (.int .i64 (x : Int)) (.int .i64 (r : Int))
        have HW4 := Lib.hid hW4
        have HBD := Lib.hid hbd
        have HNE : Hid (bd ≠ p) := Lib.hid (by have := HCT.out.sz.2.2.2; omega)
        clear hW4 hbd
        have HBIT := Lib.hid (has_any x r (by omega))
        have HHX := Lib.hid (fun u w' hu => HHD.out x r u w' hu hx hr5)
        have HM := Lib.hid (fun d hd => HMEM.out k hkN d (by rw [HQ.out]; exact hd))
        clear hal e
        cases hbb : bitB x r with
        | true =>
          have HS : Hid (repN C ll m (k + 1) = (q, t)) := Lib.hid (by rw [hS, hbb]; rfl)
          rw [hbb] at HBIT
          clear hbb hS d0 d1 d2 d3 d4
          go_wp2_with fail
          refine (HBIT.out _).mono ?_
          rintro e w5 ⟨rfl, hw5⟩
          rw [← HW4.out] at hw5
          subst hw5
          clear c0 c1 c2 c3 c4 c5 f0 f1 f2 f3 f4 f5 o0 o1 e0 e1
          obtain ⟨⟨c0, c1, c2, c3, c4, c5⟩, f0, f1, f2, f3, f4, f5⟩ := HCT4.out.nx.cells
          have HCT5 := Lib.hid HCT4.out.at_
          go_wp2_with fail
          go_roundg (N - (k + 1))
          case measure => omega
          case rel => exact ⟨k + 1, t, _, q, rfl, by omega, HS, HG2, HCT5⟩
        | false =>
          rw [hbb, Bool.false_or] at hS
          rw [hbb] at HBIT
          have HS := Lib.hid hS
          clear hbb hS d0 d1 d2 d3 d4
          go_wp2_with fail
          refine (HBIT.out _).mono ?_
          rintro e w5 ⟨rfl, hw5⟩
          rw [← HW4.out] at hw5
          subst hw5
          rw [← HBD.out]
          clear c0 c1 c2 c3 c4 c5 f0 f1 f2 f3 f4 f5 o0 o1 e0 e1
          obtain ⟨⟨c0, c1, c2, c3, c4, c5⟩, f0, f1, f2, f3, f4, f5⟩ := HCT4.out.nx.cells
          clear f0 f1 f2 f3 f4 f5
          go_wp2_with fail
          go_loopg [50] q.length (fun n iv wx => ∃ i : Nat, n = q.length - i ∧ i ≤ q.length ∧ iv = .int .i64 (i : Int) ∧ Hid (cvTo q ((x : Int), (r : Int)) i = false) ∧ Hid (Ct w C m (.slice a ll.length cap) (.slice af F0.length capf) K (n0 : Int) (.slice au ll.length capu) ll (.slice (some ⟨ob, oo, none⟩) N cpd) (cdL C N) p Bt Cc k (.slice ag' q.length capg') q (t : Int) wx) ∧ Hid (wx.cell? ⟨bd, 0, none⟩ = some (.int .i64 (x : Int)) ∧ wx.cell? ⟨bd, 1, none⟩ = some (.int .i64 (r : Int))))
          case atStart => exact ⟨0, rfl, by omega, rfl, Lib.hid rfl, HCT4, HD4⟩
          case round =>
            clear HCT4 HD4 c0 c1 c2 c3 c4 c5
            obtain ⟨i, rfl, hi, rfl, hno, HCT6, HD6⟩ := hrel
            obtain ⟨w6, hw6⟩ : ∃ w', w' = wr := ⟨_, rfl⟩
            rw [← hw6] at HCT6 HD6 ⊢
            clear hw6
            by_cases hil : i < q.length
            · obtain ⟨yb, yo, hya, y0, y1⟩ := ord_at HCT6.out.fnd hil
              subst hya
              obtain ⟨e0', e1', hye, hx32, hr32⟩ := HM.out (q.getD i (0, 0)) (by rw [List.getD_eq_getElem?_getD, List.getElem?_eq_getElem hil]; exact List.getElem_mem hil)
              have hcs : cvTo q ((x : Int), (r : Int)) (i + 1) = (cvTo q ((x : Int), (r : Int)) i || ((q.getD i (0, 0)).2 == (r : Int) && (bits .and .i64 (q.getD i (0, 0)).1 (x : Int) == (q.getD i (0, 0)).1))) := rfl
              rw [hno.out, Bool.false_or, hye] at hcs
              have hcv := partZ_cv e0' e1' x r hx32
              rw [← hcs] at hcv
              have hyes : covB ((e0' : Int), (e1' : Int)) ((x : Int), (r : Int)) = true → cvd q ((x : Int), (r : Int)) = true := fun h => by
                rw [partZ_cv e0' e1' x r hx32, Bool.and_eq_true, beq_iff_eq, beq_iff_eq] at h
                exact (cvd_iff _ _).2 ⟨q.getD i (0, 0), by rw [List.getD_eq_getElem?_getD, List.getElem?_eq_getElem hil]; exact List.getElem_mem hil, by rw [hye]; exact h.1, by rw [hye]; exact h.2⟩
              rw [hye] at y0 y1
              simp only at y0 y1
              have HKV := Lib.hid (covers_any (e0' : Int) (e1' : Int) (x : Int) (r : Int))
              obtain ⟨cv, hcve⟩ : ∃ cv, cv = covB ((e0' : Int), (e1' : Int)) ((x : Int), (r : Int)) := ⟨_, rfl⟩
              rw [← hcve] at HKV hcv hyes
              have HCV := Lib.hid hcv
              have HYES := Lib.hid hyes
              have hal := (Below.refl w6.heap.size w6).alloc (Nat.le_refl _) (.cells #[.int .i64 (e0' : Int), .int .i64 (e1' : Int)] 38)
              have HCT7 := Lib.hid (HCT6.out.below hal)
              obtain ⟨g0, g1⟩ := HD6.out
              have g0' := cell_inB g0 hal
              have g1' := cell_inB g1 hal
              have HD7 := Lib.hid (And.intro g0' g1')
              clear g0 g1
              obtain ⟨v0, v1⟩ := zero2 w6 38 (.int .i64 (e0' : Int)) (.int .i64 (e1' : Int))
              have z2 : (0 : Int) ≤ (i : Int) := by omega
              have z3 : (i : Int) < (q.length : Int) := by omega
              clear hye hcs hcv hyes hcve hal
              go_wp2_with fail
              refine (HKV.out _).mono ?_
              rintro e w8 ⟨rfl, b8⟩
              have HCT8 := Lib.hid (HCT7.out.below b8)
              have HD8 := Lib.hid (And.intro (cell_inB HD7.out.1 b8) (cell_inB HD7.out.2 b8))
              clear b8 v0 v1 g0' g1' y0 y1 HCT7 HD7 HCT6 HD6
              cases cv with
              | true =>
                have HS2 : Hid (repN C ll m (k + 1) = (q, t)) := Lib.hid (by rw [HS.out, if_pos (HYES.out rfl)])
                obtain ⟨⟨c0, c1, c2, c3, c4, c5⟩, f0, f1, f2, f3, f4, f5⟩ := HCT8.out.nx.cells
                have HCT9 := Lib.hid HCT8.out.at_
                go_wp2_with fail
                go_roundg (N - (k + 1))
                case measure => omega
                case rel => exact ⟨k + 1, t, _, q, rfl, by omega, HS2, HG2, HCT9⟩
              | false =>
                go_wp2_with fail
                go_roundg (q.length - (i + 1))
                case measure => omega
                case rel => exact ⟨i + 1, rfl, by omega, by go_num, Lib.hid HCV.out.symm, HCT8, HD8⟩
            · obtain rfl : i = q.length := by omega
              have HNC : Hid (cvd q ((x : Int), (r : Int)) = false) := hno
              obtain ⟨hh, hhh⟩ : ∃ hh, hh = h7 C ll m x r := ⟨_, rfl⟩
              have HS2 : Hid (repN C ll m (k + 1) = if hh = true then (q ++ [((x : Int), (r : Int))], t + 1) else (q, t + 1)) := Lib.hid (by rw [HS.out, if_neg (by rw [HNC.out]; decide), hhh])
              have HCT7 := Lib.hid (HCT6.out.tests ((t : Int) + 1))
              have HH7 := Lib.hid (HHX.out (.slice au ll.length capu) _ HCT7.out.tab.read)
              rw [← hhh] at HH7
              clear hhh
              obtain ⟨⟨c0, c1, c2, c3, c4, c5⟩, f0, f1, f2, f3, f4, f5⟩ := HCT6.out.nx.cells
              obtain ⟨⟨c0', c1', c2', c3', c4', c5'⟩, f0', f1', f2', f3', f4', f5'⟩ := HCT7.out.nx.cells
              obtain ⟨g0, g1⟩ := HD6.out
              go_wp2_with fail
              refine HH7.out.mono ?_
              rintro e w9 ⟨rfl, b9⟩
              have HCT9 := Lib.hid (HCT7.out.below b9)
              have b9' := (show Below w6.heap.size w6 w6 from Below.refl _ _)
              have g0' : w9.cell? ⟨bd, 0, none⟩ = some (.int .i64 (x : Int)) := cell_inB (cell_eqb g0 (Below.heap_setCell w6 ⟨p, 5, none⟩ (.int .i64 ((t : Int) + 1)) bd (HNE.out))) b9
              have g1' : w9.cell? ⟨bd, 1, none⟩ = some (.int .i64 (r : Int)) := cell_inB (cell_eqb g1 (Below.heap_setCell w6 ⟨p, 5, none⟩ (.int .i64 ((t : Int) + 1)) bd (HNE.out))) b9
              clear c0 c1 c2 c3 c4 c5 f0 f1 f2 f3 f4 f5 c0' c1' c2' c3' c4' c5' f0' f1' f2' f3' f4' f5' g0 g1 b9 b9' HCT6 HCT7 HD6
              obtain ⟨⟨c0, c1, c2, c3, c4, c5⟩, f0, f1, f2, f3, f4, f5⟩ := HCT9.out.nx.cells
              cases hh with
              | false =>
                have HS3 : Hid (repN C ll m (k + 1) = (q, t + 1)) := Lib.hid (by rw [HS2.out, if_neg (by decide)])
                have HCT10 := Lib.hid HCT9.out.at_
                go_wp2_with fail
                go_roundg (N - (k + 1))
                case measure => omega
                case rel => exact ⟨k + 1, t + 1, _, q, rfl, by omega, HS3, HG2, HCT10⟩
              | true =>
                have HS3 : Hid (repN C ll m (k + 1) = (q ++ [((x : Int), (r : Int))], t + 1)) := Lib.hid (by rw [HS2.out, if_pos rfl])
                have hal := (Below.refl w9.heap.size w9).alloc (Nat.le_refl _) (.cells #[.int .i64 (x : Int), .int .i64 (r : Int)] 38)
                have HCTA := Lib.hid (HCT9.out.below hal)
                have hsz := HCT9.out.sz
                clear hal
                go_wp2_with (at_builtin; refine wpList_append_own_at _ rfl _ _ 27 rfl Cc 38 i0 (.agg #[.int .i64 0, .int .i64 0]) 2 16 Tryz.underlying27 HI.out.1 HI.out.2.1 HI.out.2.2.1 HI.out.2.2.2 rfl (by decide) _ _ _ rfl HCTA.out.fnd ⟨w9.heap.size, 0, none⟩ 1 1 [.int .i64 (x : Int), .int .i64 (r : Int)] rfl rfl (cell_two_new _ _ _ _) (two_i64 _ _) (by unfold maxLen; omega) (by omega) (by simp; omega) ?_; intro v10 w10 hown10 hgrow10 _ hat10; obtain ⟨a10, cap10, h10⟩ := (OwnD.snoc hown10).shape; rw [List.length_append, List.length_singleton] at h10; subst h10; have HNX := Lib.hid (HCTA.out.nxg hgrow10); have HCTB := Lib.hid (HCTA.out.found (OwnD.snoc hown10) hgrow10 hat10); clear hown10 hgrow10 hat10 c0 c1 c2 c3 c4 c5 f0 f1 f2 f3 f4 f5; obtain ⟨⟨c0, c1, c2, c3, c4, c5⟩, f0, f1, f2, f3, f4, f5⟩ := HNX.out.cells)
                clear c0 c1 c2 c3 c4 c5 f0 f1 f2 f3 f4 f5
                obtain ⟨⟨c0, c1, c2, c3, c4, c5⟩, f0, f1, f2, f3, f4, f5⟩ := HCTB.out.nx.cells
                have HCTC := Lib.hid HCTB.out.at_
                go_wp2_with fail
                go_roundg (N - (k + 1))
                case measure => omega
                case rel => exact ⟨k + 1, t + 1, _, _, rfl, by omega, HS3, HG2, HCTC⟩
      · have HEQ := Lib.hid (HG.out.symm.trans (HGT.out (N - k) k (fun h => hbu (by have := h.2; rw [HQ.out] at this; exact this))))
        obtain ⟨⟨r0, r1, r2, r3, r4, r5⟩, s0, s1, s2, s3, s4, s5⟩ := HCT.out.rb.cells
        clear d0 d1 d2 d3 d4 f0 f1 f2 f3 f4 f5
        go_wp2_with fail
        have hk9 := HEQ.out
        subst hk9
        have hqt := HQ.out.symm.trans HF9.out
        simp only [Prod.mk.injEq] at hqt
        obtain ⟨rfl, rfl⟩ := hqt
        exact bodyPost_ret (v := srcV (C : Int) (.slice au ll.length capu) m (k9 : Int) (.slice ag' q.length capg') (t : Int)) (by simp [srcV, results, Tryz.results28, go_sem, r0, r1, r2, r3, r4, r5]) rfl ⟨_, _, Cc, rfl, HCT.out.fin _ _ _ _ _ _⟩
    · have HEQ := Lib.hid (HG.out.symm.trans (HGT.out (N - k) k (fun h => hlt h.1)))
      obtain ⟨⟨r0, r1, r2, r3, r4, r5⟩, s0, s1, s2, s3, s4, s5⟩ := HCT.out.rb.cells
      clear d0 d1 d2 d3 d4 d5 f0 f1 f2 f3 f4 f5
      go_wp2_with fail
      have hk9 := HEQ.out
      subst hk9
      have hqt := HQ.out.symm.trans HF9.out
      simp only [Prod.mk.injEq] at hqt
      obtain ⟨rfl, rfl⟩ := hqt
      exact bodyPost_ret (v := srcV (C : Int) (.slice au ll.length capu) m (k9 : Int) (.slice ag' q.length capg') (t : Int)) (by simp [srcV, results, Tryz.results28, go_sem, r0, r1, r2, r3, r4, r5]) rfl ⟨_, _, Cc, rfl, HCT.out.fin _ _ _ _ _ _⟩
end
end Go.Proofs.YtjfllfancgmalaaGreat
