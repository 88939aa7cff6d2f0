/- Texts of this claim, merged: NfC, NfD. Conditions: as stated. -/
import Derived.Test.YtcgkfbjdlhapkaaYa32
import Derived.Test.YtcgkfbjdlhapkaaYa8
import Derived.Test.YtcgkfbjdlhapkaaYa3
namespace Go.Proofs.Ytcgkfbjdlhapkaa
open Go.RowKit

theorem and_eq13 : ∀ x T : Fin 32, (bits .and .i64 ((x.val : Nat) : Int) ((T.val : Nat) : Int) == ((x.val : Nat) : Int)) = subN x.val T.val := by decide +kernel
theorem and_eq13r : ∀ a T : Fin 32, (bits .and .i64 ((a.val : Nat) : Int) ((T.val : Nat) : Int) == ((T.val : Nat) : Int)) = subN T.val a.val := by decide +kernel
theorem one_int13 (x : Int) : ∀ u ∈ [Value.int .i64 x], u.oneCell' = true := by intro u hu; simp at hu; subst hu; rfl
theorem isA_lt12c {C : Nat} {x : Int} (hC : C ≤ 5) (h : isA (C : Int) x = true) : ∃ X : Nat, x = (X : Int) ∧ X < 32 ∧ X < 2 ^ C := by
  unfold isA at h
  rw [decide_eq_true_iff, show ((C : Int)).toNat = C from rfl] at h
  have h32 := two5 hC
  have hz : ((2 ^ C : Nat) : Int) = (2 : Int) ^ C := by rw [Int.natCast_pow]; rfl
  exact ⟨x.toNat, by omega, by omega, by omega⟩
section
set_option maxRecDepth 20000
set_option maxHeartbeats 3200000
theorem prime13_any (C : Nat) (hC : C ≤ 5) (v : Value) (n : Int) (l : List (Int × Int)) (hDN : DepsN C l) (T : Nat) (hT : T < 32) (w : World) (hr : ReadD w v l) (hl : l.length ≤ 1048576) :
    Calls Try.prog 60 #[.int .i64 n, v, .int .i64 (T : Int)] w fun e w' => e = .returned (.int .i64 (prN l T)) ∧ Below w.heap.size w w' := by
  obtain ⟨i0, hi, hz0, hz1, hz2⟩ := info_parts info3i
  have HI : Hid (_ ∧ _ ∧ _ ∧ _) := Lib.hid ⟨hi, hz0, hz1, hz2⟩
  clear hi hz0 hz1 hz2
  have HCL := Lib.hid (fun (x : Nat) (hx : x < 32) w' (hb : Below w.heap.size w w') => close10_any C hC v l hDN x hx w' (hr.kept hb) hl)
  have HO1 : Hid (OwnI (w.alloc (.cells #[] 3)) w.heap.size (.slice (some ⟨w.heap.size, 0, none⟩) 0 0) []) := Lib.hid (OwnI.made (World.ownsRow_made w #[] 0 (Nat.le_refl _) (by unfold maxLen; omega) rfl))
  have HB1 := Lib.hid ((Below.refl w.heap.size w).alloc (Nat.le_refl _) (.cells #[] 3))
  obtain ⟨a, cap, rfl, -⟩ := hr
  go_enter Try.func60, Try.ntmps60
  have HMI := Lib.hid (fun vk w' (hk : ReadI w' vk (brdTo (kyG l T) (T + 1))) => minimalSets_any vk (brdTo (kyG l T) (T + 1)) w' hk (by have := brdTo_len (kyG l T) (T + 1); omega))
  have HE : Hid (prN l T = orL (minS (brdTo (kyG l T) (T + 1))) (minS (brdTo (kyG l T) (T + 1))).length) := Lib.hid rfl
  have hml := minS_len (brdTo (kyG l T) (T + 1))
  obtain ⟨M, hM⟩ : ∃ M, M = minS (brdTo (kyG l T) (T + 1)) := ⟨_, rfl⟩
  rw [← hM] at HMI HE hml
  clear hM
  go_wp2_with fail
  go_loopw [7, 8] (fun kv xv wr => ∃ x : Nat, x ≤ T + 1 ∧ xv = .int .i64 (x : Int) ∧ Hid (OwnI wr w.heap.size kv (brdTo (kyG l T) x)) ∧ Hid (Below w.heap.size w wr)) (fun _ xv _ => T + 1 - (intOf xv).toNat)
  case atStart => exact ⟨0, by omega, rfl, HO1, HB1⟩
  case round =>
    clear HO1 HB1
    obtain ⟨x, hx, rfl, HO, HB⟩ := hrel
    obtain ⟨w5, hw⟩ : ∃ w', w' = wr := ⟨_, rfl⟩
    rw [← hw] at HO HB ⊢
    clear hw
    have z0 : (0 : Int) ≤ (x : Int) := by omega
    by_cases hlt : x ≤ T
    · have z1 : (x : Int) ≤ (T : Int) := by omega
      have hkl := brdTo_len (kyG l T) x
      have hk := clo_lt13 hC hDN (x := x) (by omega)
      have HC := Lib.hid (HCL.out x (by omega))
      have ha1 := and_eq13 ⟨x, by omega⟩ ⟨T, hT⟩
      have ha2 := and_eq13r ⟨clo l x, hk⟩ ⟨T, hT⟩
      simp only at ha1 ha2
      have HG : Hid (brdTo (kyG l T) (x + 1) = if (subN x T && subN T (clo l x)) = true then brdTo (kyG l T) x ++ [(x : Int)] else brdTo (kyG l T) x) := Lib.hid rfl
      obtain ⟨K, hK⟩ : ∃ K, K = clo l x := ⟨_, rfl⟩
      rw [← hK] at HC ha2 HG
      obtain ⟨L0, hL0⟩ : ∃ L, L = brdTo (kyG l T) x := ⟨_, rfl⟩
      rw [← hL0] at HO HG hkl
      clear hK hk hL0
      cases h1 : subN x T with
      | false =>
        rw [h1] at ha1 HG
        rw [Bool.false_and, if_neg (by decide)] at HG
        clear h1 ha2
        go_wp2_with fail
        go_roundw
        case rel => exact ⟨x + 1, by omega, by go_num, Lib.hid (by rw [HG.out]; exact HO.out), HB⟩
        case measure => simp [intOf]; omega
      | true =>
        rw [h1] at ha1 HG
        cases h2 : subN T K with
        | false =>
          rw [h2] at ha2 HG
          rw [Bool.and_false, if_neg (by decide)] at HG
          clear h1 h2
          go_wp2_with fail
          refine (HC.out _ HB.out).mono ?_
          rintro e w6 ⟨rfl, b6⟩
          replace HO := Lib.hid (HO.out.kept b6 (fun k hk => (HO.out.lt k hk).2))
          replace HB := Lib.hid (HB.out.trans (b6.mono HB.out.size))
          clear b6
          go_wp2_with fail
          go_roundw
          case rel => exact ⟨x + 1, by omega, by go_num, Lib.hid (by rw [HG.out]; exact HO.out), HB⟩
          case measure => simp [intOf]; omega
        | true =>
          rw [h2] at ha2 HG
          rw [Bool.and_true, if_pos rfl] at HG
          clear h1 h2
          go_wp2_with fail
          refine (HC.out _ HB.out).mono ?_
          rintro e w6 ⟨rfl, b6⟩
          replace HO := Lib.hid (HO.out.kept b6 (fun k hk => (HO.out.lt k hk).2))
          replace HB := Lib.hid (HB.out.trans (b6.mono HB.out.size))
          clear b6
          go_wp2_with (at_builtin; refine wpList_append_own _ rfl _ _ 24 rfl w.heap.size 3 i0 (.int .i64 0) 1 8 Try.underlying24 HI.out.1 HI.out.2.1 HI.out.2.2.1 HI.out.2.2.2 rfl (by decide) _ _ _ rfl (World.ownsRow.alloc HO.out _) ⟨w6.heap.size, 0, none⟩ 1 1 [.int .i64 (x : Int)] rfl rfl (cell_one_new _ _ _) (one_int13 _) (by unfold maxLen; omega) (by omega) (by have := HB.out.size; rw [World.size_alloc]; omega) ?_; intro v8 w8 hown8 hgrow8 _; have HO8 := Lib.hid (OwnI.snoc hown8); have HB8 := Lib.hid ((HB.out.alloc HB.out.size (.cells #[.int .i64 (x : Int)] 3)).grown hgrow8 (by have := HB.out.size; rw [World.size_alloc]; omega) (fun k hk => (HO.out.lt k hk).1)); clear hown8 hgrow8)
          go_roundw
          case rel => exact ⟨x + 1, by omega, by go_num, Lib.hid (by rw [HG.out]; exact HO8.out), HB8⟩
          case measure => simp [intOf]; omega
    · obtain rfl : x = T + 1 := by omega
      have z1 : ¬ (((T + 1 : Nat) : Int) ≤ (T : Int)) := by omega
      have HM := Lib.hid (HMI.out _ w5 HO.out.read)
      obtain ⟨ak, ck, hk, -⟩ := HO.out.read
      subst hk
      go_wp2_with fail
      refine HM.out.mono ?_
      rintro e w6 ⟨vm, rfl, om, b6⟩
      have HB6 := Lib.hid (HB.out.trans (b6.mono HB.out.size))
      obtain ⟨am, cm, rfl, hat⟩ := om.read
      have HAT := Lib.hid hat
      clear om b6 hat HO HB HM HMI
      go_wp2_with fail
      go_loopw [9, 10] (fun yv iv wr => ∃ i : Nat, i ≤ M.length ∧ iv = .int .i64 (i : Int) ∧ yv = .int .i64 (orL M i) ∧ wr = w6) (fun _ iv _ => M.length - (intOf iv).toNat)
      case atStart => exact ⟨0, by omega, rfl, rfl, rfl⟩
      case round =>
        obtain ⟨i, hi, rfl, rfl, rfl⟩ := hrel
        by_cases hlt : i < M.length
        · have y1 : ((i : Nat) : Int) < ((M.length : Nat) : Int) := by omega
          have y0 : (0 : Int) ≤ (i : Int) := by omega
          obtain ⟨x0, rfl, hc⟩ := HAT.out i hlt
          have hs : orL M (i + 1) = bits .or .i64 (orL M i) (M.getD i 0) := rfl
          rw [List.getD_eq_getElem?_getD, List.getElem?_eq_getElem hlt, Option.getD_some] at hs
          obtain ⟨y, hy⟩ : ∃ y, y = M[i] := ⟨_, rfl⟩
          obtain ⟨z, hzz⟩ : ∃ z, z = orL M i := ⟨_, rfl⟩
          rw [← hy] at hc hs
          rw [← hzz] at hs ⊢
          have HS := Lib.hid hs
          clear hy hzz hs
          go_wp2_with fail
          go_roundw
          case rel => exact ⟨i + 1, by omega, by go_num, by rw [HS.out], trivial⟩
          case measure => simp [intOf]; omega
        · obtain rfl : i = M.length := by omega
          go_wp2_with fail
          go_ret
          exact ⟨ret_int HE.out.symm, HB6.out⟩
theorem isThird13_any (v : Value) (n s : Int) (l : List (Int × Int)) (w : World) (hr : ReadD w v l) (hl : l.length ≤ 1048576) :
    Calls Try.prog 28 #[.int .i64 n, v, .int .i64 s] w fun e w' => e = .returned (.bool (thB n l s)) ∧ Below w.heap.size w w' := by
  have HFI := Lib.hid (fine13_any v n s l w hr hl)
  have HPJ := Lib.hid (fun w' (hb : Below w.heap.size w w') => projectDeps11_any v n s l w' (hr.kept hb) hl)
  cases hf : fineN n l s with
  | false =>
    have HE : Hid (thB n l s = false) := Lib.hid (by unfold thB; rw [hf]; rfl)
    rw [hf] at HFI
    rw [HE.out]
    obtain ⟨a, cap, rfl, -⟩ := hr
    clear hf HPJ
    go_enter Try.func28, Try.ntmps28
    go_wp2_with fail
    refine HFI.out.mono ?_
    rintro e w2 ⟨rfl, b2⟩
    go_wp2_with fail
    go_ret
    exact ⟨rfl, b2⟩
  | true =>
    rw [hf] at HFI
    have hf2 := hf
    unfold fineN at hf2
    rw [Bool.and_eq_true] at hf2
    obtain ⟨C, rfl, hC1, hC, -, hDN⟩ := arD_n hf2.1
    obtain ⟨T, rfl, hT, -⟩ := isA_lt12c hC hf2.2
    obtain ⟨P, hP, hP32⟩ := prN_nat l hT
    have HPR := Lib.hid (fun w' (hb : Below w.heap.size w w') => prime13_any C hC v (C : Int) l hDN T hT w' (hr.kept hb) hl)
    rw [hP] at HPR
    have HCL := Lib.hid (fun (x : Nat) (hx : x < 32) w' (hb : Below w.heap.size w w') => close10_any C hC v l hDN x hx w' (hr.kept hb) hl)
    have HKL := Lib.hid (fun (x : Nat) (hx : x < 32) => clo_lt13 hC hDN hx)
    have HPF := Lib.hid (fun d (h : d ∈ pjL (C : Int) l (T : Int)) => pj_facts h)
    have hql := pjL_len (C : Int) l (T : Int)
    have HE : Hid (thB (C : Int) l (T : Int) = (pjL (C : Int) l (T : Int)).all (fun d => !thG l T P d)) := Lib.hid (by
      unfold thB
      rw [hf, Bool.true_and, show ((T : Int)).toNat = T from rfl, hP, show ((P : Int)).toNat = P from rfl])
    rw [HE.out]
    obtain ⟨q, hq⟩ : ∃ q, q = pjL (C : Int) l (T : Int) := ⟨_, rfl⟩
    rw [← hq] at HPJ HPF hql ⊢
    obtain ⟨a, cap, rfl, -⟩ := hr
    clear hf hf2 hq HE hP hDN
    go_enter Try.func28, Try.ntmps28
    go_wp2_with fail
    refine HFI.out.mono ?_
    rintro e w2 ⟨rfl, b2⟩
    have HB2 := Lib.hid b2
    clear b2
    go_wp2_with fail
    refine (HPR.out _ HB2.out).mono ?_
    rintro e w3 ⟨rfl, b3⟩
    have HB3 := Lib.hid (HB2.out.trans (b3.mono HB2.out.size))
    clear b3
    go_wp2_with fail
    refine (HPJ.out _ HB3.out).mono ?_
    rintro e w4 ⟨vq, rfl, oq, b4⟩
    have HB4 := Lib.hid (HB3.out.trans (b4.mono HB3.out.size))
    have HQ4 := Lib.hid oq.read
    obtain ⟨aq, cq, rfl, -⟩ := oq.read
    clear oq b4 HPJ
    go_wp2_with fail
    go_loopw [9] (fun iv wr => ∃ i : Nat, i ≤ q.length ∧ iv = .int .i64 (i : Int) ∧ Hid ((q.take i).all (fun d => !thG l T P d) = true) ∧ Hid (ReadD wr (.slice aq q.length cq) q) ∧ Hid (Below w.heap.size w wr)) (fun iv _ => q.length - (intOf iv).toNat)
    case atStart => exact ⟨0, by omega, rfl, Lib.hid rfl, HQ4, HB4⟩
    case round =>
      clear HQ4 HB4 HB3 HB2
      obtain ⟨i, hi, rfl, HALL, HQ, HB⟩ := hrel
      obtain ⟨w5, hw⟩ : ∃ w', w' = wr := ⟨_, rfl⟩
      rw [← hw] at HQ HB ⊢
      clear hw
      have z0 : (0 : Int) ≤ (i : Int) := by omega
      by_cases hlt : i < q.length
      · have z1 : (i : Int) < (q.length : Int) := by omega
        obtain ⟨bd, od, hbd, h0, h1⟩ := readD_cells HQ.out hlt
        subst hbd
        have HM : Hid (q.getD i (0, 0) ∈ q) := Lib.hid (memD hlt)
        have HTK : Hid (q.take (i + 1) = q.take i ++ [q.getD i (0, 0)]) := Lib.hid (take_succ_getD q (0, 0) i hlt)
        obtain ⟨x, R, T', hd, hs, hx, hR5, -⟩ := HPF.out _ HM.out
        clear hs
        have HC := Lib.hid (HCL.out x hx)
        have hk := HKL.out x hx
        have hab := and_bad ⟨clo l x, hk⟩ ⟨T, hT⟩
        simp only at hab
        have hbz := bit_zero11 P R
        have HTG : Hid (thG l T P ((x : Int), (R : Int)) = (!subN T (clo l x) && !bitB P R)) := Lib.hid rfl
        rw [hd] at h0 h1 HTK HM
        simp only at h0 h1
        have hR0 : (0 : Int) ≤ (R : Int) := by omega
        have hR64 : R ≤ 64 := by omega
        obtain ⟨K, hK⟩ : ∃ K, K = clo l x := ⟨_, rfl⟩
        rw [← hK] at HC hab HTG
        obtain ⟨bp, hbp⟩ : ∃ bp, bp = bitB P R := ⟨_, rfl⟩
        rw [← hbp] at hbz HTG
        clear hk hK hbp hd
        cases hp : subN T K with
        | true =>
          rw [hp] at hab HTG
          have HN : Hid ((q.take (i + 1)).all (fun d => !thG l T P d) = true) := Lib.hid (by rw [HTK.out, List.all_append, HALL.out]; simp [HTG.out])
          clear hp hbz
          go_wp2_with fail
          refine (HC.out _ HB.out).mono ?_
          rintro e w6 ⟨rfl, b6⟩
          replace HB := Lib.hid (HB.out.trans (b6.mono HB.out.size))
          replace HQ := Lib.hid (HQ.out.kept b6)
          clear b6 h0 h1
          go_wp2_with fail
          go_roundw
          case rel => exact ⟨i + 1, by omega, by go_num, HN, HQ, HB⟩
          case measure => simp [intOf]; omega
        | false =>
          rw [hp] at hab HTG
          clear hp
          cases bp with
          | true =>
            have HN : Hid ((q.take (i + 1)).all (fun d => !thG l T P d) = true) := Lib.hid (by rw [HTK.out, List.all_append, HALL.out]; simp [HTG.out])
            go_wp2_with fail
            refine (HC.out _ HB.out).mono ?_
            rintro e w6 ⟨rfl, b6⟩
            have k0 := keep_in h0 b6
            have k1 := keep_in h1 b6
            replace HB := Lib.hid (HB.out.trans (b6.mono HB.out.size))
            replace HQ := Lib.hid (HQ.out.kept b6)
            clear b6 h0 h1
            go_wp2_with fail
            go_roundw
            case rel => exact ⟨i + 1, by omega, by go_num, HN, HQ, HB⟩
            case measure => simp [intOf]; omega
          | false =>
            have HN : Hid (q.all (fun d => !thG l T P d) = false) := Lib.hid (List.all_eq_false.2 ⟨_, HM.out, by rw [HTG.out]; decide⟩)
            go_wp2_with fail
            refine (HC.out _ HB.out).mono ?_
            rintro e w6 ⟨rfl, b6⟩
            have k0 := keep_in h0 b6
            have k1 := keep_in h1 b6
            replace HB := Lib.hid (HB.out.trans (b6.mono HB.out.size))
            clear b6 h0 h1
            go_wp2_with fail
            go_ret
            exact ⟨by rw [HN.out]; rfl, HB.out⟩
      · obtain rfl : i = q.length := by omega
        have HN : Hid (q.all (fun d => !thG l T P d) = true) := Lib.hid (by have := HALL.out; rwa [List.take_length] at this)
        go_wp2_with fail
        go_ret
        exact ⟨by rw [HN.out]; rfl, HB.out⟩
end
end Go.Proofs.Ytcgkfbjdlhapkaa
namespace Go.Proofs.Ytcgkfbjdlhapkaa
open Go.RowKit

theorem andnot_int13 : ∀ T A : Fin 32, subN A.val T.val = true → bits .andNot .i64 ((T.val : Nat) : Int) ((A.val : Nat) : Int) = ((T.val ^^^ A.val : Nat) : Int) := by decide +kernel
theorem or_int13 : ∀ x y : Fin 32, bits .or .i64 ((x.val : Nat) : Int) ((y.val : Nat) : Int) = ((x.val ||| y.val : Nat) : Int) := by decide +kernel
theorem splN_leaf {n : Int} {l : List (Int × Int)} {T : Nat} (h : (bdD n l (T : Int)).2 = false) : ∀ (k : Nat) (out : List Int), splN n l k T out = put4 out (T : Int)
  | 0, _ => rfl
  | k + 1, out => by
    show (if (bdD n l (T : Int)).2 = true then _ else put4 out (T : Int)) = _
    rw [h, if_neg (by decide)]
theorem splN_node {n : Int} {l : List (Int × Int)} {T : Nat} (h : (bdD n l (T : Int)).2 = true) (k : Nat) (out : List Int) :
    splN n l (k + 1) T out = splN n l k ((T ^^^ (clo l (bdD n l (T : Int)).1.1.toNat &&& T)) ||| (bdD n l (T : Int)).1.1.toNat) (splN n l k (clo l (bdD n l (T : Int)).1.1.toNat &&& T) out) := by
  show (if (bdD n l (T : Int)).2 = true then _ else put4 out (T : Int)) = _
  rw [if_pos h]
theorem put4_len13 (l : List Int) (x : Int) : (put4 l x).length ≤ l.length + 1 := by
  have h := putTo_len l x l.length
  unfold put4
  split
  · omega
  · split
    · rename_i h1
      rw [if_pos h1] at h
      omega
    · rename_i h1
      rw [if_neg h1] at h
      rw [List.length_append, List.length_singleton]
      omega
theorem splN_len (n : Int) (l : List (Int × Int)) : ∀ (k T : Nat) (out : List Int), (splN n l k T out).length ≤ out.length + 2 ^ k
  | 0, T, out => put4_len13 out (T : Int)
  | k + 1, T, out => by
    cases h : (bdD n l (T : Int)).2 with
    | false =>
      rw [splN_leaf h]
      have := put4_len13 out (T : Int)
      have hp : 0 < 2 ^ (k + 1) := Nat.pow_pos (by decide)
      omega
    | true =>
      rw [splN_node h]
      have h1 := splN_len n l k (clo l (bdD n l (T : Int)).1.1.toNat &&& T) out
      have h2 := splN_len n l k ((T ^^^ (clo l (bdD n l (T : Int)).1.1.toNat &&& T)) ||| (bdD n l (T : Int)).1.1.toNat) (splN n l k (clo l (bdD n l (T : Int)).1.1.toNat &&& T) out)
      rw [Nat.pow_succ]
      omega
def SplOk (v : Value) (n : Int) (l : List (Int × Int)) (k : Nat) : Prop := ∀ T, T < 32 → popN T ≤ k → ∀ (out : List Int) (u : Value) (B : Nat) (w : World), ReadD w v l → OwnI w B u out → B ≤ w.heap.size → out.length + 2 ^ k ≤ 1000000 →
  Calls Try.prog 63 #[.int .i64 n, v, .int .i64 (T : Int), u] w fun e w' => ∃ v', e = .returned v' ∧ OwnI w' B v' (splN n l k T out) ∧ Below w.heap.size w w'
section
set_option maxRecDepth 20000
set_option maxHeartbeats 3200000
theorem split_step (v : Value) (n : Int) (l : List (Int × Int)) (hl : l.length ≤ 1048576) (k : Nat) (ih : ∀ j, j + 1 = k → SplOk v n l j) : SplOk v n l k := by
  intro T hT hpk out u B w hr ho hB hlen
  have hlen1 : out.length ≤ 1000000 := Nat.le_trans (Nat.le_add_right _ _) hlen
  have HBD := Lib.hid (bad13_any v n (T : Int) l w hr hl)
  have HRD := Lib.hid (fun w' (hb : Below w.heap.size w w') => hr.kept hb)
  have hok : ∀ w' (hb : Below w.heap.size w w'), OwnI w' B u out := fun w' hb => ho.kept hb (fun k hk => (ho.lt k hk).2)
  have HOK := Lib.hid hok
  cases hbb : (bdD n l (T : Int)).2 with
  | false =>
    have HE : Hid (splN n l k T out = put4 out (T : Int)) := Lib.hid (splN_leaf hbb k out)
    have HPT := Lib.hid (fun w' (hb : Below w.heap.size w w') => l4Put_any u out (T : Int) B w' (HOK.out w' hb) (Nat.le_trans hB hb.size) hlen1)
    rw [HE.out]
    obtain ⟨⟨x, y⟩, hB1⟩ : ∃ b, b = (bdD n l (T : Int)).1 := ⟨_, rfl⟩
    rw [hbb, ← hB1] at HBD
    simp only at HBD
    obtain ⟨a, cap, rfl, -⟩ := hr
    obtain ⟨ao, co, hu, -⟩ := ho.read
    subst hu
    clear hB1 hbb ih ho hok hlen
    go_enter Try.func63, Try.ntmps63
    go_wp2_with fail
    refine HBD.out.mono ?_
    rintro e w2 ⟨rfl, b2⟩
    have HA2 := Lib.hid (b2.alloc b2.size (.cells #[.int .i64 x, .int .i64 y] 44))
    clear b2
    go_wp2_with fail
    refine (HPT.out _ HA2.out).mono ?_
    rintro e w3 ⟨v3, rfl, o3, b3⟩
    have HB3 := Lib.hid (HA2.out.trans (b3.mono HA2.out.size))
    have HO3 := Lib.hid o3
    obtain ⟨a3, c3, hv3, -⟩ := o3.read
    subst hv3
    clear o3 b3
    go_wp2_with fail
    go_ret
    exact ⟨_, rfl, HO3.out, HB3.out⟩
  | true =>
    have hm : bdD n l (T : Int) = ((bdD n l (T : Int)).1, true) := by rw [← hbb]
    obtain ⟨C, rfl, -, -⟩ := pj_deps (fst13_mem hm).1
    obtain ⟨L, R, e, hL, hR, -, hTC, hC, ha, hDN, hLT, hK, hAT, hA, hpA, hS, hST, hpS⟩ := bad_facts hbb
    obtain ⟨j, rfl⟩ : ∃ j, k = j + 1 := ⟨k - 1, by omega⟩
    have HN : Hid (splN (C : Int) l (j + 1) T out = splN (C : Int) l j ((T ^^^ (clo l L &&& T)) ||| L) (splN (C : Int) l j (clo l L &&& T) out)) := Lib.hid (by rw [splN_node hbb, e]; rfl)
    rw [HN.out]
    have hl1 := splN_len (C : Int) l j (clo l L &&& T) out
    rw [Nat.pow_succ] at hlen
    have ai := andN_int ⟨clo l L, hK⟩ ⟨T, hT⟩
    have ni := andnot_int13 ⟨T, hT⟩ ⟨clo l L &&& T, hA⟩ hAT
    have oi := or_int13 ⟨T ^^^ (clo l L &&& T), (xor_sub ⟨T, hT⟩ ⟨clo l L &&& T, hA⟩ hAT).2⟩ ⟨L, hL⟩
    simp only at ai ni oi
    have HCL := Lib.hid (fun w' (hb : Below w.heap.size w w') => close10_any C hC v l hDN L hL w' (hr.kept hb) hl)
    have hI1 := ih j rfl (clo l L &&& T) hA (by omega) out u B
    have hI2 := ih j rfl ((T ^^^ (clo l L &&& T)) ||| L) hS (by omega) (splN (C : Int) l j (clo l L &&& T) out)
    obtain ⟨Q, hQ⟩ : ∃ Q, Q = splN (C : Int) l j (clo l L &&& T) out := ⟨_, rfl⟩
    rw [← hQ] at hI1 hI2 hl1 ⊢
    obtain ⟨K, hKK⟩ : ∃ K, K = clo l L := ⟨_, rfl⟩
    rw [← hKK] at HCL ai ni oi hI1 hI2 ⊢
    obtain ⟨A, hAA⟩ : ∃ A, A = K &&& T := ⟨_, rfl⟩
    rw [← hAA] at ai ni oi hI1 hI2 ⊢
    obtain ⟨X, hXX⟩ : ∃ X, X = T ^^^ A := ⟨_, rfl⟩
    rw [← hXX] at ni oi hI2 ⊢
    obtain ⟨S, hSS⟩ : ∃ S, S = X ||| L := ⟨_, rfl⟩
    rw [← hSS] at oi hI2 ⊢
    have HI1 := Lib.hid (fun w' (hb : Below w.heap.size w w') => hI1 w' (HRD.out w' hb) (HOK.out w' hb) (Nat.le_trans hB hb.size) (by omega))
    have HI2 := Lib.hid (fun u' w' (hb : Below w.heap.size w w') (ho' : OwnI w' B u' Q) => hI2 u' B w' (HRD.out w' hb) ho' (Nat.le_trans hB hb.size) (by omega))
    rw [hbb, e] at HBD
    simp only at HBD
    obtain ⟨a, cap, rfl, -⟩ := hr
    obtain ⟨ao, co, hu, -⟩ := ho.read
    subst hu
    clear hQ hKK hAA hXX hSS hI1 hI2 ih ho hok hm hAT hA hpA hS hST hpS e hK hDN hbb hlen hl1 HN
    go_enter Try.func63, Try.ntmps63
    go_wp2_with fail
    refine HBD.out.mono ?_
    rintro e w2 ⟨rfl, b2⟩
    have HA2 := Lib.hid (b2.alloc b2.size (.cells #[.int .i64 (L : Int), .int .i64 (R : Int)] 44))
    have HX2 := Lib.hid (bx_new w2 (L : Int) (R : Int))
    clear b2
    go_wp2_with fail
    refine (HCL.out _ HA2.out).mono ?_
    rintro e w3 ⟨rfl, b3⟩
    have HB3 := Lib.hid (HA2.out.trans (b3.mono HA2.out.size))
    have HX3 := Lib.hid (HX2.out.keep b3)
    clear b3 HX2 HA2
    go_wp2_with fail
    refine (HI1.out _ HB3.out).mono ?_
    rintro e w4 ⟨v4, rfl, o4, b4⟩
    have HB4 := Lib.hid (HB3.out.trans (b4.mono HB3.out.size))
    have HX4 := Lib.hid (HX3.out.keep b4)
    have HO4 := Lib.hid o4
    obtain ⟨a4, c4, hv4, -⟩ := o4.read
    subst hv4
    have d0 := HX4.out.c0
    clear o4 b4 HX3 HB3
    go_wp2_with fail
    refine (HI2.out _ _ HB4.out HO4.out).mono ?_
    rintro e w5 ⟨v5, rfl, o5, b5⟩
    have HB5 := Lib.hid (HB4.out.trans (b5.mono HB4.out.size))
    have HO5 := Lib.hid o5
    obtain ⟨a5, c5, hv5, -⟩ := o5.read
    subst hv5
    clear o5 b5 d0
    go_wp2_with fail
    go_ret
    exact ⟨_, rfl, HO5.out, HB5.out⟩
theorem split13_any (v : Value) (n : Int) (l : List (Int × Int)) (hl : l.length ≤ 1048576) : ∀ k, SplOk v n l k
  | 0 => split_step v n l hl 0 (fun j h => absurd h (by omega))
  | k + 1 => split_step v n l hl (k + 1) (fun j h => by cases h; exact split13_any v n l hl k)
theorem dcL_len (n : Int) (l : List (Int × Int)) : (dcL n l).length ≤ 100 := by
  unfold dcL
  split
  · exact Nat.le_trans (maxS_len _) (by omega)
  · exact Nat.zero_le _
theorem decompose13_any (v : Value) (n : Int) (l : List (Int × Int)) (w : World) (hr : ReadD w v l) (hl : l.length ≤ 1048576) :
    Calls Try.prog 30 #[.int .i64 n, v] w (RetI (dcL n l) w) := by
  have HAD := Lib.hid (areDeps10_any v n l w hr hl)
  have HRD := Lib.hid (fun w' (hb : Below w.heap.size w w') => hr.kept hb)
  cases ha : arD n l with
  | false =>
    have HE : Hid (dcL n l = []) := Lib.hid (by unfold dcL; rw [ha]; rfl)
    rw [ha] at HAD
    rw [HE.out]
    obtain ⟨a, cap, rfl, -⟩ := hr
    clear ha
    go_enter Try.func30, Try.ntmps30
    go_wp2_with fail
    refine HAD.out.mono ?_
    rintro e w2 ⟨rfl, b2⟩
    have HB := Lib.hid (b2.alloc b2.size (.cells #[] 3))
    have HO : Hid (OwnI (w2.alloc (.cells #[] 3)) w.heap.size (.slice (some ⟨w2.heap.size, 0, none⟩) 0 0) []) := Lib.hid (OwnI.made (World.ownsRow_made w2 #[] 0 b2.size (by unfold maxLen; omega) rfl))
    clear b2
    go_wp2_with fail
    go_ret
    exact ⟨_, rfl, HO.out, HB.out⟩
  | true =>
    obtain ⟨C, rfl, hC1, hC, -, hDN⟩ := arD_n ha
    have h32 := two5 hC
    have hp : 0 < 2 ^ C := Nat.pow_pos (by decide)
    have hz : ((2 ^ C : Nat) : Int) = (2 : Int) ^ C := by rw [Int.natCast_pow]; rfl
    have HE : Hid (dcL (C : Int) l = maxS (splN (C : Int) l 6 (2 ^ C - 1) [])) := Lib.hid (by unfold dcL; rw [if_pos ha]; rfl)
    have HAL := Lib.hid (fun w' => (all_any (C : Int) w' (by omega) (by omega)).mono (fun e w'' h => show e = .returned (.int .i64 ((2 ^ C - 1 : Nat) : Int)) ∧ w' = w'' from ⟨by
      rw [h.1]
      have e3 : ((2 ^ C - 1 : Nat) : Int) = (2 : Int) ^ C - 1 := by omega
      rw [e3]; rfl, h.2⟩))
    have hsl := splN_len (C : Int) l 6 (2 ^ C - 1) []
    have HSP := Lib.hid (fun u B w' (hb : Below w.heap.size w w') (ho : OwnI w' B u []) (hB : B ≤ w'.heap.size) => split13_any v (C : Int) l hl 6 (2 ^ C - 1) (by omega) (by have := popN_le (2 ^ C - 1); omega) [] u B w' (HRD.out w' hb) ho hB (by decide))
    obtain ⟨Q, hQ⟩ : ∃ Q, Q = splN (C : Int) l 6 (2 ^ C - 1) [] := ⟨_, rfl⟩
    rw [← hQ] at HSP HE hsl
    obtain ⟨F, hF⟩ : ∃ F, F = 2 ^ C - 1 := ⟨_, rfl⟩
    rw [← hF] at HSP HAL
    have hql : Q.length ≤ 64 := by simpa using hsl
    have HMX := Lib.hid (fun u' w' (h : ReadI w' u' Q) => maximalSets_any u' Q w' h (by omega))
    rw [ha] at HAD
    rw [HE.out]
    obtain ⟨a, cap, rfl, -⟩ := hr
    clear ha hQ hF hDN hsl hz h32 hp HE
    go_enter Try.func30, Try.ntmps30
    go_wp2_with fail
    refine HAD.out.mono ?_
    rintro e w2 ⟨rfl, b2⟩
    have HB2 := Lib.hid b2
    clear b2
    go_wp2_with fail
    refine (HAL.out _).mono ?_
    rintro e w3 ⟨rfl, rfl⟩
    have HA3 := Lib.hid (HB2.out.alloc HB2.out.size (.cells #[] 3))
    have HO3 : Hid (OwnI (w2.alloc (.cells #[] 3)) w.heap.size (.slice (some ⟨w2.heap.size, 0, none⟩) 0 0) []) := Lib.hid (OwnI.made (World.ownsRow_made w2 #[] 0 HB2.out.size (by unfold maxLen; omega) rfl))
    go_wp2_with fail
    refine (HSP.out _ w.heap.size _ HA3.out HO3.out HA3.out.size).mono ?_
    rintro e w4 ⟨v4, rfl, o4, b4⟩
    have HB4 := Lib.hid (HA3.out.trans (b4.mono HA3.out.size))
    have HM := Lib.hid (HMX.out v4 w4 o4.read)
    obtain ⟨a4, c4, hv4, -⟩ := o4.read
    subst hv4
    clear o4 b4
    go_wp2_with fail
    refine HM.out.mono ?_
    rintro e w5 ⟨v5, rfl, o5, b5⟩
    have HB5 := Lib.hid (HB4.out.trans (b5.mono HB4.out.size))
    have HO5 := Lib.hid (o5.base HB4.out.size)
    obtain ⟨a5, c5, hv5, -⟩ := o5.read
    subst hv5
    clear o5 b5
    go_wp2_with fail
    go_ret
    exact ⟨_, rfl, HO5.out, HB5.out⟩
end
end Go.Proofs.Ytcgkfbjdlhapkaa
