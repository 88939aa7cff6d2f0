/- The program's chapter 13: a schema is divided, by contract. Conditions: as stated. -/
import Derived.Test.YtcgkfbjdlhapkaaPnOm
import Derived.Test.YtcgkfbjdlhapkaaYa39
import Derived.Test.YtcgkfbjdlhapkaaNfFm
namespace Go.Proofs.Ytcgkfbjdlhapkaa
open Go.RowKit

theorem zero_cellsI (n : Nat) : (Builtin.zeroCells (Value.cells (.int .i64 0)) n).size = n * 1 := by
  simp [Builtin.zeroCells, Value.cells]
theorem intsV_len1 (l : List Int) : (intsV l).length = l.length * 1 := by rw [intsV_length]; omega
theorem intsV_one (l : List Int) : ∀ u ∈ intsV l, u.oneCell' = true := by intro u hu; unfold intsV at hu; rw [List.mem_map] at hu; obtain ⟨x, -, rfl⟩ := hu; rfl
theorem newsIn {w : World} {a : Option Addr} {n c : Nat} {l : List Int} (h : ReadI w (.slice a n c) l) : ∀ j u, (intsV l)[j]? = some u → ∃ x, a = some x ∧ w.cell? (x.add j) = some u := by
  intro j u hu
  have hj : j < l.length := by
    have := (List.getElem?_eq_some_iff.1 hu).1
    rwa [intsV_length] at this
  rw [intsV_get l j hj] at hu
  obtain ⟨a', cap, hv, hc⟩ := h
  cases hv
  obtain ⟨x, rfl, hx⟩ := hc j hj
  cases hu
  exact ⟨x, rfl, hx⟩
theorem ownI_shape {w : World} {B : Nat} {v : Value} {l : List Int} (h : OwnI w B v l) : ∃ a c, v = .slice a l.length c := by
  rcases h.shape with ⟨rfl, rfl⟩ | ⟨g, cap, rfl, -⟩
  · exact ⟨_, _, rfl⟩
  · exact ⟨_, _, rfl⟩
theorem OwnI.app13 {w : World} {B : Nat} {v : Value} {a b : List Int} (h : w.ownsRow B 3 1 v (a.length + b.length) (intsV a ++ intsV b)) : OwnI w B v (a ++ b) := by
  unfold OwnI
  rw [List.length_append, show intsV (a ++ b) = intsV a ++ intsV b by simp [intsV]]
  exact h
theorem bal (Q1 Q2 : List Int) (w : World) (a1 a2 : Option Addr) (k1 k2 : Nat) : Below w.heap.size w (w.alloc (.cells #[.slice a1 Q1.length k1, .slice a2 Q2.length k2] 24)) := (Below.refl _ _).alloc (Nat.le_refl _) _
theorem readD_at13 {w : World} {a : Option Addr} {n cap : Nat} {l : List (Int × Int)} (h : ReadD w (.slice a n cap) l) {i : Nat} (hi : i < l.length) : ∃ b o, a = some ⟨b, o, none⟩ ∧ n = l.length ∧ w.cell? ⟨b, o + i * 2, none⟩ = some (.int .i64 (l.getD i (0, 0)).1) := by
  obtain ⟨a', cap', hv, hc⟩ := h
  cases hv
  obtain ⟨b, o, rfl, h0, -⟩ := hc i hi
  exact ⟨b, o, rfl, rfl, h0⟩
section
set_option maxRecDepth 20000
set_option maxHeartbeats 3200000
theorem growNilI_any (n : Nat) (hn : n ≤ 1048576) (w : World) :
    Calls Try.prog 130 #[.slice none 0 0, .int .i64 (n : Int)] w (RetI [] w) := by
  obtain ⟨i0, hi, hz0, hz1, hz2⟩ := info_parts info3i
  have HI : Hid (_ ∧ _ ∧ _ ∧ _) := Lib.hid ⟨hi, hz0, hz1, hz2⟩
  clear hi hz0 hz1 hz2
  have z0 : ¬ ((n : Int) < 0) := by omega
  by_cases h0 : n = 0
  · subst h0
    go_enter Try.func130, Try.ntmps130
    go_wp2_with fail
    go_ret
    exact ⟨_, rfl, OwnI.none _ _, Below.refl _ _⟩
  · have z1 : (n : Int) > 0 := by omega
    have hrz : ∀ ty, (Builtin.append_ #[24, 3] ty #[.slice none 0 0, .int .i64 (n : Int)]).run Try.prog w = _ := fun ty => Lib.run_append_nil_zeros w 24 3 ty 3 i0 (.int .i64 0) .i64 .i64 Try.underlying24 Try.underlying3 HI.out.1 HI.out.2.1 n (by omega) (by rw [HI.out.2.2.1]; omega) (by omega) (by rw [HI.out.2.2.2]; omega)
    have hge := grownCap_ge w n 0 3
    have hle := grownCap_le_maxLen w n 0 3 (by unfold maxLen; omega)
    obtain ⟨G, hG⟩ : ∃ G, G = grownCap w n 0 3 := ⟨_, rfl⟩
    rw [← hG] at hrz hge hle
    have ho := World.ownsRow_made (base := w.heap.size) (e := 3) (size := 1) w.drew (Builtin.zeroCells (Value.cells (.int .i64 0)) n ++ Builtin.zeroCells (Value.cells (.int .i64 0)) (G - n)) G (Nat.le_refl _) hle (by rw [Array.size_append, zero_cellsI, zero_cellsI]; omega)
    have HO := Lib.hid ho
    have hb := ((Below.refl w.heap.size w).drew).alloc (Nat.le_refl _) (.cells (Builtin.zeroCells (Value.cells (.int .i64 0)) n ++ Builtin.zeroCells (Value.cells (.int .i64 0)) (G - n)) 3)
    have HB := Lib.hid hb
    clear ho hb hG
    go_enter Try.func130, Try.ntmps130
    go_wp2_with (at_builtin; refine Lib.wpList_append_run _ rfl _ _ _ _ rfl _ _ rfl rfl _ _ (hrz _) ?_)
    go_ret
    exact ⟨_, rfl, HO.out, HB.out⟩
theorem concatI_any (g : Nat) (aa ab : Option Addr) (ca cb : Nat) (a b : List Int) (w : World) (ha : ReadI w (.slice aa a.length ca) a) (hb : ReadI w (.slice ab b.length cb) b) (hla : a.length ≤ 1000) (hlb : b.length ≤ 1000) (h0 : w.cell? ⟨g, 0, none⟩ = some (.slice aa a.length ca)) (h1 : w.cell? ⟨g, 1, none⟩ = some (.slice ab b.length cb)) :
    Calls Try.prog 105 #[.slice (some ⟨g, 0, none⟩) 2 2] w (RetI (a ++ b) w) := by
  obtain ⟨i0, hi, hz0, hz1, hz2⟩ := info_parts info3i
  have HI : Hid (_ ∧ _ ∧ _ ∧ _) := Lib.hid ⟨hi, hz0, hz1, hz2⟩
  clear hi hz0 hz1 hz2
  have HC0 := Lib.hid (fun w' (hk : Below w.heap.size w w') => (hk.cell (World.block_lt_of_cell? w _ h0)).trans h0)
  have HC1 := Lib.hid (fun w' (hk : Below w.heap.size w w') => (hk.cell (World.block_lt_of_cell? w _ h1)).trans h1)
  have HA := Lib.hid (fun w' (hk : Below w.heap.size w w') => newsIn (ha.kept hk))
  have HBn := Lib.hid (fun w' (hk : Below w.heap.size w w') => newsIn (hb.kept hk))
  have HG := Lib.hid (growNilI_any (a.length + b.length) (by omega) w)
  have HLa : Hid ((intsV a).length = a.length * 1) := Lib.hid (intsV_len1 a)
  have HLb : Hid ((intsV b).length = b.length * 1) := Lib.hid (intsV_len1 b)
  clear ha hb
  obtain ⟨na, hna⟩ : ∃ n, n = a.length := ⟨_, rfl⟩
  obtain ⟨nb, hnb⟩ : ∃ n, n = b.length := ⟨_, rfl⟩
  have w1 : wrap64 (0 + (na : Int)) = (na : Int) := by unfold wrap64; omega
  have w0 : wrap64 (na : Int) = (na : Int) := by unfold wrap64; omega
  have w2 : wrap64 ((na : Int) + (nb : Int)) = ((na + nb : Nat) : Int) := by unfold wrap64; omega
  have z1 : ¬ ((na : Int) < 0) := by omega
  have z2 : ¬ (((na + nb : Nat) : Int) < 0) := by omega
  rw [← hna] at HC0 HG HLa h0
  rw [← hnb] at HC1 HG HLb h1
  have hla' : na ≤ 1000 := by omega
  have hlb' : nb ≤ 1000 := by omega
  have HNA := Lib.hid hna
  have HNB := Lib.hid hnb
  clear hna hnb
  go_enter Try.func105, Try.ntmps105
  go_wp2_with fail
  go_loopw [3, 11] (fun sv iv wr => ((iv = .int .i64 0 ∧ sv = .int .i64 0) ∨ (iv = .int .i64 1 ∧ sv = .int .i64 (na : Int)) ∨ (iv = .int .i64 2 ∧ sv = .int .i64 ((na + nb : Nat) : Int))) ∧ wr = w) (fun _ iv _ => 2 - (intOf iv).toNat)
  case atStart => exact ⟨.inl ⟨rfl, rfl⟩, rfl⟩
  case round =>
    obtain ⟨hc, hwr⟩ := hrel
    rw [hwr]
    clear hwr
    rcases hc with ⟨rfl, rfl⟩ | ⟨rfl, rfl⟩ | ⟨rfl, rfl⟩
    · go_wp2_with fail
      go_roundw
      all_goals first | (simp [intOf]; done) | exact ⟨.inr (.inl ⟨rfl, by rw [w0]⟩), rfl⟩ | exact ⟨.inr (.inl ⟨by go_num, by rw [w1]⟩), rfl⟩ | exact ⟨.inr (.inl ⟨rfl, by rw [w0]⟩), trivial⟩
    · go_wp2_with fail
      go_roundw
      all_goals first | (simp [intOf]; done) | exact ⟨.inr (.inr ⟨by go_num, by rw [w2]⟩), rfl⟩ | exact ⟨.inr (.inr ⟨by go_num, by rw [w2]⟩), trivial⟩
    · go_wp2_with fail
      refine HG.out.mono ?_
      rintro e w1 ⟨v1, rfl, o1, b1⟩
      have HO1 := Lib.hid o1
      have HB1 := Lib.hid b1
      clear o1 b1 h0 h1
      go_wp2_with fail
      go_loopw [6, 27] (fun ov iv wr => ((iv = .int .i64 0 ∧ Hid (OwnI wr w.heap.size ov [])) ∨ (iv = .int .i64 1 ∧ Hid (OwnI wr w.heap.size ov a)) ∨ (iv = .int .i64 2 ∧ Hid (OwnI wr w.heap.size ov (a ++ b)))) ∧ Hid (Below w.heap.size w wr)) (fun _ iv _ => 2 - (intOf iv).toNat)
      case atStart => exact ⟨.inl ⟨rfl, HO1⟩, HB1⟩
      case round =>
        clear HO1 HB1
        obtain ⟨hc, HB⟩ := hrel
        obtain ⟨w3, hw⟩ : ∃ w', w' = wr := ⟨_, rfl⟩
        rw [← hw] at hc HB ⊢
        clear hw
        have c0 := HC0.out _ HB.out
        have c1 := HC1.out _ HB.out
        rcases hc with ⟨rfl, HO⟩ | ⟨rfl, HO⟩ | ⟨rfl, HO⟩
        · obtain ⟨a3, c3, hov⟩ : ∃ a c, _ = Value.slice a 0 c := ownI_shape HO.out
          subst hov
          have HO' : Hid (w3.ownsRow w.heap.size 3 1 (.slice a3 0 c3) 0 []) := HO
          go_wp2_with (at_builtin; refine wpList_append_all rfl _ _ 24 rfl w.heap.size 3 i0 (.int .i64 0) 1 8 Try.underlying24 HI.out.1 HI.out.2.1 HI.out.2.2.1 HI.out.2.2.2 rfl (by decide) _ _ _ rfl HO'.out aa na _ (intsV a) rfl HLa.out (HA.out _ HB.out) (intsV_one _) (by unfold maxLen; omega) (by omega) (HB.out.size) ?_; intro v2 w4 hown2 hgrow2; have HO2 : Hid (OwnI w4 w.heap.size v2 a) := Lib.hid (by unfold OwnI; rw [← HNA.out]; have h := hown2; first | exact h | (rw [Nat.zero_add, List.nil_append] at h; exact h)); have HB2 := Lib.hid (HB.out.grown hgrow2 (HB.out.size) (fun g hg => (OwnI.lt HO.out g hg).1)); clear hown2 hgrow2)
          go_roundw
          all_goals first | (simp [intOf]; done) | exact ⟨.inr (.inl ⟨rfl, HO2⟩), HB2⟩ | exact ⟨.inr (.inl ⟨by go_num, HO2⟩), HB2⟩
        · obtain ⟨a3, c3, hov⟩ := ownI_shape HO.out
          rw [← HNA.out] at hov
          subst hov
          have HO' : Hid (w3.ownsRow w.heap.size 3 1 (.slice a3 na c3) na (intsV a)) := Lib.hid (by have h := HO.out; unfold OwnI at h; rw [← HNA.out] at h; exact h)
          go_wp2_with (at_builtin; refine wpList_append_all rfl _ _ 24 rfl w.heap.size 3 i0 (.int .i64 0) 1 8 Try.underlying24 HI.out.1 HI.out.2.1 HI.out.2.2.1 HI.out.2.2.2 rfl (by decide) _ _ _ rfl HO'.out ab nb _ (intsV b) rfl HLb.out (HBn.out _ HB.out) (intsV_one _) (by unfold maxLen; omega) (by omega) (HB.out.size) ?_; intro v2 w4 hown2 hgrow2; have HO2 : Hid (OwnI w4 w.heap.size v2 (a ++ b)) := Lib.hid (OwnI.app13 (by rw [← HNA.out, ← HNB.out]; exact hown2)); have HB2 := Lib.hid (HB.out.grown hgrow2 (HB.out.size) (fun g hg => (OwnI.lt HO.out g hg).1)); clear hown2 hgrow2)
          go_roundw
          all_goals first | (simp [intOf]; done) | exact ⟨.inr (.inr ⟨rfl, HO2⟩), HB2⟩ | exact ⟨.inr (.inr ⟨by go_num, HO2⟩), HB2⟩
        · go_wp2_with fail
          go_ret
          exact ⟨_, rfl, HO.out, HB.out⟩
theorem concatI_at (g na nb : Nat) (aa ab : Option Addr) (ca cb : Nat) (a b : List Int) (w : World) (ha : ReadI w (.slice aa na ca) a) (hb : ReadI w (.slice ab nb cb) b) (hla : a.length ≤ 1000) (hlb : b.length ≤ 1000) (h0 : w.cell? ⟨g, 0, none⟩ = some (.slice aa na ca)) (h1 : w.cell? ⟨g, 1, none⟩ = some (.slice ab nb cb)) :
    Calls Try.prog 105 #[.slice (some ⟨g, 0, none⟩) 2 2] w (RetI (a ++ b) w) := by
  obtain rfl : na = a.length := by obtain ⟨_, _, hv, _⟩ := ha; cases hv; rfl
  obtain rfl : nb = b.length := by obtain ⟨_, _, hv, _⟩ := hb; cases hv; rfl
  exact concatI_any g aa ab ca cb a b w ha hb hla hlb h0 h1
/-- The contract of divided for sets of at most k columns. -/
def DvOk (b C : Nat) (v : Value) (l : List (Int × Int)) (k : Nat) : Prop := ∀ T, T < 32 → T < 2 ^ C → popN T ≤ k → ∀ (w : World), MnE w b C v l →
  Calls Try.prog 66 #[.agg #[.int .i64 (T : Int), .func (.func 99) #[] #[.pointer (some ⟨b + 1, 0, none⟩)], .func (.func 100) #[] #[.pointer (some ⟨b, 0, none⟩), .pointer (some ⟨b + 1, 0, none⟩)], .func (.func 102) #[] #[.pointer (some ⟨b, 0, none⟩), .pointer (some ⟨b + 1, 0, none⟩)]]] w (RetI (dvN (C : Int) l k T) w)
theorem dv_step (b C : Nat) (v : Value) (l : List (Int × Int)) (ok : MnOk C l) (k : Nat) (hk : k ≤ 6) (ih : ∀ j, j + 1 = k → DvOk b C v l j) : DvOk b C v l k := by
  intro T hT hTC hpk w he
  have HB1 := Lib.hid ((Below.refl w.heap.size w).alloc (Nat.le_refl _) (.cells #[.int .i64 (T : Int), .func (.func 99) #[] #[.pointer (some ⟨b + 1, 0, none⟩)], .func (.func 100) #[] #[.pointer (some ⟨b, 0, none⟩), .pointer (some ⟨b + 1, 0, none⟩)], .func (.func 102) #[] #[.pointer (some ⟨b, 0, none⟩), .pointer (some ⟨b + 1, 0, none⟩)]] 69))
  have HX1 := Lib.hid (SBk.new w T b)
  have HOF := Lib.hid (fun w' (hb : Below w.heap.size w w') => offenders_any b C v l ok T 0 hT w' (he.kept hb))
  have c0 := HX1.out.c0
  have c1 := HX1.out.c1
  have c2 := HX1.out.c2
  have c3 := HX1.out.c3
  rcases of_bd (C : Int) l T with ⟨hbb, hnil⟩ | ⟨hbb, hpos, hget⟩
  · rw [hnil] at HOF
    rw [dvN_leaf hbb]
    clear hbb hnil ih ok he hT hTC hpk
    go_enter Try.func66, Try.ntmps66
    go_wp2_with fail
    refine (HOF.out _ HB1.out).mono ?_
    rintro e w3 ⟨v3, rfl, o3, b3⟩
    have HB3 := Lib.hid (HB1.out.trans (b3.mono HB1.out.size))
    have HX3 := Lib.hid (HX1.out.kept b3)
    obtain ⟨a3, k3, rfl⟩ := o3.shape
    have d0 := HX3.out.c0
    clear b3 o3 c0 c1 c2 c3
    go_wp2_with fail
    go_ret
    exact ⟨_, rfl, World.ownsRow_lit w3 #[.int .i64 (T : Int)] 1 HB3.out.size (by unfold maxLen; omega) rfl, HB3.out.alloc HB3.out.size _⟩
  · obtain ⟨L, R, e, hL, hR, -, hTC', hC, ha, hDN, hLT, hK, hAT, hA, hpA, hS, hST, hpS⟩ := bad_facts hbb
    obtain ⟨j, rfl⟩ : ∃ j, k = j + 1 := ⟨k - 1, by omega⟩
    have HN : Hid (dvN (C : Int) l (j + 1) T = dvN (C : Int) l j (clo l L &&& T) ++ dvN (C : Int) l j ((T ^^^ (clo l L &&& T)) ||| L)) := Lib.hid (by rw [dvN_node hbb, e]; rfl)
    rw [HN.out]
    have hl1 := dvN_len (C : Int) l j (clo l L &&& T)
    have hl2 := dvN_len (C : Int) l j ((T ^^^ (clo l L &&& T)) ||| L)
    have h32 : 2 ^ j ≤ 32 := Nat.le_trans (Nat.pow_le_pow_right (by omega) (show j ≤ 5 by omega)) (by decide)
    obtain ⟨ai, ni⟩ := div_int13 ⟨T, hT⟩ ⟨clo l L, hK⟩
    have oi := or_int13p ⟨L, hL⟩ ⟨T ^^^ (clo l L &&& T), (xor_sub ⟨T, hT⟩ ⟨clo l L &&& T, hA⟩ hAT).2⟩
    simp only at ai ni oi
    have HCL := Lib.hid (fun w' (hb : Below w.heap.size w w') => mnClo_any b C v l ok L hL w' (he.kept hb))
    have hI1 := ih j rfl (clo l L &&& T) hA (Nat.lt_of_le_of_lt (subN_le13 hAT) hTC) (by omega)
    have hI2 := ih j rfl ((T ^^^ (clo l L &&& T)) ||| L) hS (Nat.lt_of_le_of_lt (subN_le13 hST) hTC) (by omega)
    obtain ⟨Q1, hQ1⟩ : ∃ Q, Q = dvN (C : Int) l j (clo l L &&& T) := ⟨_, rfl⟩
    obtain ⟨Q2, hQ2⟩ : ∃ Q, Q = dvN (C : Int) l j ((T ^^^ (clo l L &&& T)) ||| L) := ⟨_, rfl⟩
    rw [← hQ1] at hI1 hl1 ⊢
    rw [← hQ2] at hI2 hl2 ⊢
    obtain ⟨K, hKK⟩ : ∃ K, K = clo l L := ⟨_, rfl⟩
    rw [← hKK] at HCL ai ni oi hI1 hI2
    obtain ⟨A, hAA⟩ : ∃ A, A = K &&& T := ⟨_, rfl⟩
    rw [← hAA] at ai ni oi hI1 hI2
    obtain ⟨X, hXX⟩ : ∃ X, X = T ^^^ A := ⟨_, rfl⟩
    rw [← hXX] at ni oi hI2
    obtain ⟨S, hSS⟩ : ∃ S, S = X ||| L := ⟨_, rfl⟩
    rw [← hSS] at oi hI2
    have HI1 := Lib.hid (fun w' (hb : Below w.heap.size w w') => hI1 w' (he.kept hb))
    have HI2 := Lib.hid (fun w' (hb : Below w.heap.size w w') => hI2 w' (he.kept hb))
    have HL : Hid (Q1.length ≤ 1000 ∧ Q2.length ≤ 1000) := Lib.hid ⟨by omega, by omega⟩
    have HRD := Lib.hid (fun w' a n cp (h : ReadD w' (.slice a n cp) (ofL (C : Int) l T 0)) => readD_at13 h hpos)
    have hlen : ¬ (((ofL (C : Int) l T 0).length : Int) = 0) := by omega
    have hpz : (0 : Int) < ((ofL (C : Int) l T 0).length : Int) := by omega
    rw [hget, e] at HRD
    obtain ⟨F, hF⟩ : ∃ F, F = ofL (C : Int) l T 0 := ⟨_, rfl⟩
    rw [← hF] at HOF HRD hlen hpz
    simp only at HRD
    have HSB := Lib.hid (fun (w' : World) (T' : Nat) => SBk.new w' T' b)
    clear hQ1 hQ2 hKK hAA hXX hSS hI1 hI2 ih ok he hbb hpos hget hF hAT hA hpA hS hST hpS hLT hDN ha hC hTC hTC' hT hpk hl1 hl2 h32 hK e HN
    go_enter Try.func66, Try.ntmps66
    go_wp2_with fail
    refine (HOF.out _ HB1.out).mono ?_
    rintro e w3 ⟨v3, rfl, o3, b3⟩
    have HB3 := Lib.hid (HB1.out.trans (b3.mono HB1.out.size))
    have HX3 := Lib.hid (HX1.out.kept b3)
    obtain ⟨a3, k3, rfl⟩ := o3.shape
    obtain ⟨g3, f3, rfl, -, r3⟩ := HRD.out w3 a3 _ k3 o3.read
    have d1 := HX3.out.c1
    rw [Nat.zero_mul, Nat.add_zero] at r3
    clear b3 o3 c0 c1 c2 c3
    go_wp2_with fail
    refine (HCL.out _ HB3.out).mono ?_
    rintro e w4 ⟨rfl, b4⟩
    have HB4 := Lib.hid (HB3.out.trans (b4.mono HB3.out.size))
    have HX4 := Lib.hid (HX3.out.kept b4)
    have q0 := HX4.out.c0
    have q1 := HX4.out.c1
    have q2 := HX4.out.c2
    have q3 := HX4.out.c3
    have hb5 := (Below.refl w4.heap.size w4).alloc (Nat.le_refl _) (.cells #[.int .i64 (A : Int), .func (.func 99) #[] #[.pointer (some ⟨b + 1, 0, none⟩)], .func (.func 100) #[] #[.pointer (some ⟨b, 0, none⟩), .pointer (some ⟨b + 1, 0, none⟩)], .func (.func 102) #[] #[.pointer (some ⟨b, 0, none⟩), .pointer (some ⟨b + 1, 0, none⟩)]] 69)
    have hb6 := (Below.refl (w4.alloc (.cells #[.int .i64 (A : Int), .func (.func 99) #[] #[.pointer (some ⟨b + 1, 0, none⟩)], .func (.func 100) #[] #[.pointer (some ⟨b, 0, none⟩), .pointer (some ⟨b + 1, 0, none⟩)], .func (.func 102) #[] #[.pointer (some ⟨b, 0, none⟩), .pointer (some ⟨b + 1, 0, none⟩)]] 69)).heap.size _).alloc (Nat.le_refl _) (.cells #[.int .i64 (S : Int), .func (.func 99) #[] #[.pointer (some ⟨b + 1, 0, none⟩)], .func (.func 100) #[] #[.pointer (some ⟨b, 0, none⟩), .pointer (some ⟨b + 1, 0, none⟩)], .func (.func 102) #[] #[.pointer (some ⟨b, 0, none⟩), .pointer (some ⟨b + 1, 0, none⟩)]] 69)
    have HX5 := Lib.hid ((HSB.out w4 A).kept hb6)
    have hx6 := HSB.out (w4.alloc (.cells #[.int .i64 (A : Int), .func (.func 99) #[] #[.pointer (some ⟨b + 1, 0, none⟩)], .func (.func 100) #[] #[.pointer (some ⟨b, 0, none⟩), .pointer (some ⟨b + 1, 0, none⟩)], .func (.func 102) #[] #[.pointer (some ⟨b, 0, none⟩), .pointer (some ⟨b + 1, 0, none⟩)]] 69)) S
    rw [World.size_alloc] at hx6
    have HX6 := Lib.hid hx6
    have HB6 := Lib.hid ((HB4.out.alloc HB4.out.size (.cells #[.int .i64 (A : Int), .func (.func 99) #[] #[.pointer (some ⟨b + 1, 0, none⟩)], .func (.func 100) #[] #[.pointer (some ⟨b, 0, none⟩), .pointer (some ⟨b + 1, 0, none⟩)], .func (.func 102) #[] #[.pointer (some ⟨b, 0, none⟩), .pointer (some ⟨b + 1, 0, none⟩)]] 69)).alloc (HB4.out.alloc HB4.out.size (.cells #[.int .i64 (A : Int), .func (.func 99) #[] #[.pointer (some ⟨b + 1, 0, none⟩)], .func (.func 100) #[] #[.pointer (some ⟨b, 0, none⟩), .pointer (some ⟨b + 1, 0, none⟩)], .func (.func 102) #[] #[.pointer (some ⟨b, 0, none⟩), .pointer (some ⟨b + 1, 0, none⟩)]] 69)).size (.cells #[.int .i64 (S : Int), .func (.func 99) #[] #[.pointer (some ⟨b + 1, 0, none⟩)], .func (.func 100) #[] #[.pointer (some ⟨b, 0, none⟩), .pointer (some ⟨b + 1, 0, none⟩)], .func (.func 102) #[] #[.pointer (some ⟨b, 0, none⟩), .pointer (some ⟨b + 1, 0, none⟩)]] 69))
    have p0 := keep_in q0 hb5
    have p1 := keep_in q1 hb5
    have p2 := keep_in q2 hb5
    have p3 := keep_in q3 hb5
    have i0 := HX5.out.c0
    have i1 := HX5.out.c1
    have i2 := HX5.out.c2
    have i3 := HX5.out.c3
    have j0 := HX6.out.c0
    have j1 := HX6.out.c1
    have j2 := HX6.out.c2
    have j3 := HX6.out.c3
    clear b4 d1 r3 hx6 hb5 hb6
    go_upto_region 11 with fail
    obtain ⟨W6, hW⟩ : ∃ W6, W6 = ((w4.alloc (.cells #[.int .i64 (A : Int), .func (.func 99) #[] #[.pointer (some ⟨b + 1, 0, none⟩)], .func (.func 100) #[] #[.pointer (some ⟨b, 0, none⟩), .pointer (some ⟨b + 1, 0, none⟩)], .func (.func 102) #[] #[.pointer (some ⟨b, 0, none⟩), .pointer (some ⟨b + 1, 0, none⟩)]] 69)).alloc (.cells #[.int .i64 (S : Int), .func (.func 99) #[] #[.pointer (some ⟨b + 1, 0, none⟩)], .func (.func 100) #[] #[.pointer (some ⟨b, 0, none⟩), .pointer (some ⟨b + 1, 0, none⟩)], .func (.func 102) #[] #[.pointer (some ⟨b, 0, none⟩), .pointer (some ⟨b + 1, 0, none⟩)]] 69)) := ⟨_, rfl⟩
    rw [← hW] at i0 i1 i2 i3 j0 j1 j2 j3 HB6 ⊢
    clear hW p0 p1 p2 p3 q0 q1 q2 q3
    refine wp_region_noPanic ?_
    refine wp_region_held_drew (S := (fun w' => ((w'.cell? ⟨w4.heap.size, 0, none⟩ = some (.int .i64 (A : Int)) ∧ w'.cell? ⟨w4.heap.size, 1, none⟩ = some (.func (.func 99) #[] #[.pointer (some ⟨b + 1, 0, none⟩)]) ∧ w'.cell? ⟨w4.heap.size, 2, none⟩ = some (.func (.func 100) #[] #[.pointer (some ⟨b, 0, none⟩), .pointer (some ⟨b + 1, 0, none⟩)]) ∧ w'.cell? ⟨w4.heap.size, 3, none⟩ = some (.func (.func 102) #[] #[.pointer (some ⟨b, 0, none⟩), .pointer (some ⟨b + 1, 0, none⟩)])) ∧ w'.cell? ⟨w4.heap.size + 1, 0, none⟩ = some (.int .i64 (S : Int)) ∧ w'.cell? ⟨w4.heap.size + 1, 1, none⟩ = some (.func (.func 99) #[] #[.pointer (some ⟨b + 1, 0, none⟩)]) ∧ w'.cell? ⟨w4.heap.size + 1, 2, none⟩ = some (.func (.func 100) #[] #[.pointer (some ⟨b, 0, none⟩), .pointer (some ⟨b + 1, 0, none⟩)]) ∧ w'.cell? ⟨w4.heap.size + 1, 3, none⟩ = some (.func (.func 102) #[] #[.pointer (some ⟨b, 0, none⟩), .pointer (some ⟨b + 1, 0, none⟩)])) ∧ Below W6.heap.size W6 w')) (by kernel_rfl) ?_ (fun hHeld => ?_)
    · ((try dsimp only); exact ⟨⟨⟨i0, i1, i2, i3⟩, j0, j1, j2, j3⟩, (Below.refl _ _).drew⟩)
    refine wpAnyH_take (i := 0) (v := ?_) rfl (by kernel_rfl) (by kernel_rfl) (by kernel_rfl) (fun _ _ _ h => h) (Or.inl ⟨by rfl, ?_⟩) (by assumption) ?_
    rotate_left
    · (intro w hSw; (try dsimp only at hSw); go_simp; (try with_reducible rfl))
    (try simp only [Act.put, List.getElem_toArray, List.getElem_cons_zero, List.setIfInBounds_toArray, List.set_cons_zero, List.set_cons_succ])
    refine wpAnyH_take (i := 2) (v := ?_) rfl (by kernel_rfl) (by kernel_rfl) (by kernel_rfl) (fun _ _ _ h => h) (Or.inl ⟨by rfl, ?_⟩) (by assumption) ?_
    rotate_left
    · (intro w hSw; (try dsimp only at hSw); go_simp; (try with_reducible rfl))
    (try simp only [Act.put, List.getElem_toArray, List.getElem_cons_succ, List.getElem_cons_zero, List.setIfInBounds_toArray, List.set_cons_zero, List.set_cons_succ])
    refine wpAnyH_ready (rs := [1]) (by kernel_rfl) (by simp) (AllReadyH.cons rfl (fun K hK => ?_) AllReadyH.nil)
    (first | (go_at_call 66; refine (HI1.out _ (HB6.out.trans (hHeld.2.mono HB6.out.size))).mono ?_; rintro e w91 ⟨v91, rfl, o91, b91⟩; obtain ⟨a91, k91, rfl⟩ := ownI_shape o91) | (go_simp; go_at_call 66; refine (HI1.out _ (HB6.out.trans (hHeld.2.mono HB6.out.size))).mono ?_; rintro e w91 ⟨v91, rfl, o91, b91⟩; obtain ⟨a91, k91, rfl⟩ := ownI_shape o91))
    (try (go_wp2_with fail))
    refine hK.out _ _ ?_ (fun hHeld => ?_)
    · ((try dsimp only); exact ⟨⟨⟨keep_in hHeld.1.1.1 b91, keep_in hHeld.1.1.2.1 b91, keep_in hHeld.1.1.2.2.1 b91, keep_in hHeld.1.1.2.2.2 b91⟩, keep_in hHeld.1.2.1 b91, keep_in hHeld.1.2.2.1 b91, keep_in hHeld.1.2.2.2.1 b91, keep_in hHeld.1.2.2.2.2 b91⟩, hHeld.2.trans (b91.mono hHeld.2.size)⟩)
    clear hK K
    (try simp only [Act.put, List.getElem_toArray, List.getElem_cons_succ, List.getElem_cons_zero, List.setIfInBounds_toArray, List.set_cons_zero, List.set_cons_succ])
    refine wpAnyH_ready (rs := [3]) (by kernel_rfl) (by simp) (AllReadyH.cons rfl (fun K hK => ?_) AllReadyH.nil)
    (first | (go_at_call 66; refine (HI2.out _ (HB6.out.trans (hHeld.2.mono HB6.out.size))).mono ?_; rintro e w92 ⟨v92, rfl, o92, b92⟩; obtain ⟨a92, k92, rfl⟩ := ownI_shape o92) | (go_simp; go_at_call 66; refine (HI2.out _ (HB6.out.trans (hHeld.2.mono HB6.out.size))).mono ?_; rintro e w92 ⟨v92, rfl, o92, b92⟩; obtain ⟨a92, k92, rfl⟩ := ownI_shape o92))
    (try (go_wp2_with fail))
    refine hK.out _ _ ?_ (fun hHeld => ?_)
    · ((try dsimp only); exact ⟨⟨⟨keep_in hHeld.1.1.1 b92, keep_in hHeld.1.1.2.1 b92, keep_in hHeld.1.1.2.2.1 b92, keep_in hHeld.1.1.2.2.2 b92⟩, keep_in hHeld.1.2.1 b92, keep_in hHeld.1.2.2.1 b92, keep_in hHeld.1.2.2.2.1 b92, keep_in hHeld.1.2.2.2.2 b92⟩, hHeld.2.trans (b92.mono hHeld.2.size)⟩)
    clear hK K
    (try simp only [Act.put, List.getElem_toArray, List.getElem_cons_succ, List.getElem_cons_zero, List.setIfInBounds_toArray, List.set_cons_zero, List.set_cons_succ])
    refine wpAnyH_ready (rs := [4]) (by kernel_rfl) (by simp) (AllReadyH.cons rfl (fun K hK => ?_) AllReadyH.nil)
    go_simp
    refine hK.out _ _ ?_ (fun hHeld => ?_)
    · ((try dsimp only); exact ⟨⟨⟨keep_in hHeld.1.1.1 (bal Q1 Q2 w92 a91 a92 k91 k92), keep_in hHeld.1.1.2.1 (bal Q1 Q2 w92 a91 a92 k91 k92), keep_in hHeld.1.1.2.2.1 (bal Q1 Q2 w92 a91 a92 k91 k92), keep_in hHeld.1.1.2.2.2 (bal Q1 Q2 w92 a91 a92 k91 k92)⟩, keep_in hHeld.1.2.1 (bal Q1 Q2 w92 a91 a92 k91 k92), keep_in hHeld.1.2.2.1 (bal Q1 Q2 w92 a91 a92 k91 k92), keep_in hHeld.1.2.2.2.1 (bal Q1 Q2 w92 a91 a92 k91 k92), keep_in hHeld.1.2.2.2.2 (bal Q1 Q2 w92 a91 a92 k91 k92)⟩, hHeld.2.trans ((bal Q1 Q2 w92 a91 a92 k91 k92).mono hHeld.2.size)⟩)
    clear hK K
    (try simp only [Act.put, List.getElem_toArray, List.getElem_cons_succ, List.getElem_cons_zero, List.setIfInBounds_toArray, List.set_cons_zero, List.set_cons_succ])
    refine wpAnyH_ready (rs := [5]) (by kernel_rfl) (by simp) (AllReadyH.cons rfl (fun K hK => ?_) AllReadyH.nil)
    (first | (go_at_call 105; refine (concatI_at w92.heap.size Q1.length Q2.length a91 a92 k91 k92 Q1 Q2 _ ((o91.read.kept b92).kept (bal Q1 Q2 w92 a91 a92 k91 k92)) (o92.read.kept (bal Q1 Q2 w92 a91 a92 k91 k92)) HL.out.1 HL.out.2 (World.cell?_alloc_mark w92 #[.slice a91 Q1.length k91, .slice a92 Q2.length k92] 24 (0, 0) 0) (World.cell?_alloc_mark w92 #[.slice a91 Q1.length k91, .slice a92 Q2.length k92] 24 (0, 0) 1)).mono ?_; rintro e w93 ⟨v93, rfl, o93, b93⟩) | (go_simp; go_at_call 105; refine (concatI_at w92.heap.size Q1.length Q2.length a91 a92 k91 k92 Q1 Q2 _ ((o91.read.kept b92).kept (bal Q1 Q2 w92 a91 a92 k91 k92)) (o92.read.kept (bal Q1 Q2 w92 a91 a92 k91 k92)) HL.out.1 HL.out.2 (World.cell?_alloc_mark w92 #[.slice a91 Q1.length k91, .slice a92 Q2.length k92] 24 (0, 0) 0) (World.cell?_alloc_mark w92 #[.slice a91 Q1.length k91, .slice a92 Q2.length k92] 24 (0, 0) 1)).mono ?_; rintro e w93 ⟨v93, rfl, o93, b93⟩))
    (try (go_wp2_with fail))
    refine hK.out _ _ ?_ (fun hHeld => ?_)
    · ((try dsimp only); exact ⟨⟨⟨keep_in hHeld.1.1.1 b93, keep_in hHeld.1.1.2.1 b93, keep_in hHeld.1.1.2.2.1 b93, keep_in hHeld.1.1.2.2.2 b93⟩, keep_in hHeld.1.2.1 b93, keep_in hHeld.1.2.2.1 b93, keep_in hHeld.1.2.2.2.1 b93, keep_in hHeld.1.2.2.2.2 b93⟩, hHeld.2.trans (b93.mono hHeld.2.size)⟩)
    clear hK K
    (try simp only [Act.put, List.getElem_toArray, List.getElem_cons_succ, List.getElem_cons_zero, List.setIfInBounds_toArray, List.set_cons_zero, List.set_cons_succ])
    refine wpAnyH_take (i := 6) (v := ?_) rfl (by kernel_rfl) (by kernel_rfl) (by kernel_rfl) (fun _ _ _ h => h) (Or.inl ⟨by rfl, ?_⟩) (by assumption) ?_
    rotate_left
    · (intro w hSw; (try dsimp only at hSw); go_simp; (try with_reducible rfl))
    (try simp only [Act.put, List.getElem_toArray, List.getElem_cons_succ, List.getElem_cons_zero, List.setIfInBounds_toArray, List.set_cons_zero, List.set_cons_succ])
    refine wpAnyH_done (by kernel_rfl) ?_ _
    refine NoPanic.normal ?_
    have HB9 := Lib.hid (HB6.out.trans (hHeld.2.mono HB6.out.size))
    have HO9 := Lib.hid (o93.base (show w.heap.size ≤ _ from Nat.le_trans (Nat.le_trans HB6.out.size (Nat.le_trans b91.size b92.size)) (bal Q1 Q2 w92 a91 a92 k91 k92).size))
    clear o91 o92 o93 b91 b92 b93
    go_wp2_with fail
    go_ret
    exact ⟨_, rfl, HO9.out, HB9.out⟩
end
end Go.Proofs.Ytcgkfbjdlhapkaa
