/- The program's chapter 13: IsPreserving, by contract. Conditions: as stated. -/
import Derived.Test.YtcgkfbjdlhapkaaPnDm
import Derived.Test.YtcgkfbjdlhapkaaYa46
import Derived.Test.YtcgkfbjdlhapkaaYa30
namespace Go.Proofs.Ytcgkfbjdlhapkaa
open Go.RowKit

set_option maxHeartbeats 1600000 in
theorem indexPs_any (v c1 : Value) (p : Int × Int → Bool) (l : List (Int × Int)) (w : World) (hr : ReadD w v l) (hl : l.length ≤ 1048576)
    (HP : ∀ x, x ∈ l → ∀ w', Below w.heap.size w w' → Calls Try.prog 75 #[.agg #[.int .i64 x.1, .int .i64 x.2], c1] w' fun e w'' => e = .returned (.bool (p x)) ∧ Below w'.heap.size w' w'') :
    Calls Try.prog 115 #[v, .func (.func 75) #[] #[c1]] w fun e w' => ∃ i, e = .returned (.int .i64 i) ∧ IxOk (l.any p) i ∧ Below w.heap.size w w' := by
  have HQ := Lib.hid HP
  obtain ⟨a, cap, rfl, ha⟩ := hr
  have HA := Lib.hid ha
  clear ha HP
  go_enter Try.func115, Try.ntmps115
  go_wp2_with fail
  go_loopw [8] (fun iv wr => ∃ (k : Nat), k ≤ l.length ∧ iv = .int .i64 (k : Int) ∧ Hid ((l.take k).any p = false) ∧ Below w.heap.size w wr) (fun iv _ => l.length - (intOf iv).toNat)
  case atStart => exact ⟨0, by omega, rfl, Lib.hid rfl, Below.refl _ _⟩
  case round =>
    obtain ⟨k, hk, rfl, hno, hb⟩ := hrel
    by_cases hlt : k < l.length
    · obtain ⟨b, o, rfl, h0, h1⟩ := HA.out k hlt
      replace h0 := (hb.cell (World.block_lt_of_cell? w _ h0)).trans h0
      replace h1 := (hb.cell (World.block_lt_of_cell? w _ h1)).trans h1
      have hm : l.getD k (0, 0) ∈ l := by rw [List.getD_eq_getElem?_getD, List.getElem?_eq_getElem hlt]; exact List.getElem_mem hlt
      have HNO := Lib.hid (any_no p l (0, 0) k hlt hno.out)
      have HYE := Lib.hid (any_yes p l (0, 0) k hlt)
      obtain ⟨⟨y0, y1⟩, hy⟩ : ∃ y, y = l.getD k (0, 0) := ⟨_, rfl⟩
      rw [← hy] at h0 h1 hm HNO HYE
      simp only at h0 h1
      have HC := Lib.hid (HQ.out (y0, y1) hm)
      have HB := Lib.hid hb
      clear hy hm hb
      have z0 : (0 : Int) ≤ (k : Int) := by omega
      have z1 : (k : Int) < (l.length : Int) := by omega
      cases hp : p (y0, y1) with
      | true =>
        have HE := Lib.hid (HYE.out hp)
        rw [hp] at HC
        clear hp
        go_wp2_with fail
        refine (HC.out _ HB.out).mono ?_
        rintro e w1 ⟨rfl, b1⟩
        have hb1 := HB.out.trans (b1.mono HB.out.size)
        clear b1 h0 h1
        go_wp2_with fail
        go_ret
        exact ⟨_, rfl, ⟨fun _ => (by omega), fun h => absurd h (by rw [HE.out]; decide)⟩, hb1⟩
      | false =>
        have HE := Lib.hid (HNO.out hp)
        rw [hp] at HC
        clear hp
        go_wp2_with fail
        refine (HC.out _ HB.out).mono ?_
        rintro e w1 ⟨rfl, b1⟩
        have hb1 := HB.out.trans (b1.mono HB.out.size)
        clear b1 h0 h1
        go_wp2_with fail
        go_roundw
        case rel => exact ⟨k + 1, by omega, by go_num, HE, hb1⟩
        case measure => simp [intOf]; omega
    · obtain rfl : k = l.length := by omega
      go_wp2_with fail
      go_ret
      exact ⟨_, rfl, ⟨fun h => absurd h (by have := hno.out; rw [List.take_length] at this; rw [this]; decide), fun _ => rfl⟩, hb⟩
set_option maxHeartbeats 1600000 in
theorem containsPs_any (v c1 : Value) (p : Int × Int → Bool) (l : List (Int × Int)) (w : World) (hr : ReadD w v l) (hl : l.length ≤ 1048576)
    (HP : ∀ x, x ∈ l → ∀ w', Below w.heap.size w w' → Calls Try.prog 75 #[.agg #[.int .i64 x.1, .int .i64 x.2], c1] w' fun e w'' => e = .returned (.bool (p x)) ∧ Below w'.heap.size w' w'') :
    Calls Try.prog 74 #[v, .func (.func 75) #[] #[c1]] w fun e w' => e = .returned (.bool (l.any p)) ∧ Below w.heap.size w w' := by
  have HI := Lib.hid (indexPs_any v c1 p l w hr hl HP)
  clear hr HP
  go_enter Try.func74, Try.ntmps74
  go_wp2_with fail
  refine HI.out.mono ?_
  rintro e w' ⟨i, rfl, hi, hb⟩
  have HX : Hid (l.any p = decide (0 ≤ i)) := Lib.hid (by
    cases h : l.any p with
    | true => exact (decide_eq_true (hi.1 h)).symm
    | false => rw [hi.2 h]; rfl)
  clear hi
  go_wp2_with fail
  go_ret
  exact ⟨ret_b HX.out, hb⟩
section
variable {P : Program} {w : World}
theorem run_append_types (t u ty e : TypeId) (ht : P.underlying t = some (.slice e)) (hu : P.underlying u = some (.slice e)) (a : Option Addr) (n c : Nat) (y : Value) : (Builtin.append_ #[t, u] ty #[.slice a n c, y]).run P w = (Builtin.append_ #[t, t] ty #[.slice a n c, y]).run P w := by
  simp [Builtin.append_, run_underlying ht, run_underlying hu]
theorem wpList_append_all2 {ops : Array Oper} {rest : List Oper} {o : Oper} {a : Act} {Q : Exit → Act → World → Prop} (hgd : o.guard = none) (s x : Operand) (t u : TypeId)
    (ho : o.op = .call { callee := .builtin .append, args := #[s, x], argTypes := #[t, u] })
    (base : Nat) (e : TypeId) (i : TypeInfo) (z : Value) (size bytes : Nat) (ht : P.underlying t = some (.slice e)) (hu : P.underlying u = some (.slice e)) (hi : P.info? e = some i) (hz : i.zero = some z)
    (hsize : i.size = size) (hby : i.bytes = bytes) (hzs : z.cells.size = size) (hsz : 0 < size)
    (v : Value) (n : Nat) (xs : List Value) (hs : a.eval s = v) (hown : w.ownsRow base e size v n xs)
    (ad : Option Addr) (m c : Nat) (news : List Value) (hx : a.eval x = .slice ad m c) (hl : news.length = m * size) (hnews : ∀ j u, news[j]? = some u → ∃ x, ad = some x ∧ w.cell? (x.add j) = some u) (h1 : ∀ u ∈ news, u.oneCell' = true)
    (h63 : n + m ≤ maxLen) (hbytes : (n + m) * bytes ≤ 140737488355328) (hbase : base ≤ w.heap.size)
    (h : ∀ v' w', w'.ownsRow base e size v' (n + m) (xs ++ news) → w.grownBy w' v.ownBlock → wpList P ops Q rest (a.put o.dst v') w') : wpList P ops Q (o :: rest) a w :=
  wpList_plain hgd fun _ hK => by
    obtain ⟨v', w', hr, h2, h3⟩ := run_append_all (P := P) (w := w) base t o.type e i z size bytes ht hi hz hsize hby hzs hsz v n xs hown ad m c news hl hnews h1 h63 hbytes hbase
    obtain ⟨a', n', c', hv⟩ : ∃ a' n' c', v = .slice a' n' c' := by
      rcases hown.2 with ⟨h, -⟩ | ⟨g, cap, cur, h, -⟩
      · exact ⟨_, _, _, h⟩
      · exact ⟨_, _, _, h⟩
    rw [hv, ← run_append_types t u o.type e ht hu, ← hv] at hr
    unfold Oper.wp execOp
    simp only [ho, resolve, invoke, builtin, Sem.run_bind, Sem.run_pure, Result.andThen_ok, List.map_toArray, List.map_cons, List.map_nil, hs, hx, hr]
    exact hK _ _ (h v' w' h2 h3)
end
theorem dfP_nat {C : Nat} (hC : C ≤ 5) {ps : List Int} (h : ps.all (isA (C : Int)) = true) : ∀ y ∈ dfP ps, ∃ X : Nat, y = (X : Int) ∧ X < 32 := fun y hy => by
  obtain ⟨X, e, hX, -⟩ := isA_lt12c hC (List.all_eq_true.1 h y ((dfP_mem hC h y).1 hy))
  exact ⟨X, e, hX⟩
theorem dfP_len (ps : List Int) : (dfP ps).length ≤ 32 := lstTo_len _ 32
section
set_option maxRecDepth 20000
set_option maxHeartbeats 3200000
theorem projOn_any (b C : Nat) (v : Value) (l : List (Int × Int)) (ok : MnOk C l) (vp : Value) (ps : List Int) (hps : ps.all (isA (C : Int)) = true) (w : World) (he : MnE w b C v l) (hrp : ReadI w vp ps) (hlp : ps.length ≤ 1048576) :
    Calls Try.prog 73 #[.agg #[.func (.func 99) #[] #[.pointer (some ⟨b + 1, 0, none⟩)], .func (.func 100) #[] #[.pointer (some ⟨b, 0, none⟩), .pointer (some ⟨b + 1, 0, none⟩)], .func (.func 102) #[] #[.pointer (some ⟨b, 0, none⟩), .pointer (some ⟨b + 1, 0, none⟩)]], vp] w (RetD (alTo (C : Int) l (dfP ps) (dfP ps).length) w) := by
  obtain ⟨i0, hi, hz0, hz1, hz2⟩ := info_parts infoDp
  have HI : Hid (_ ∧ _ ∧ _ ∧ _) := Lib.hid ⟨hi, hz0, hz1, hz2⟩
  clear hi hz0 hz1 hz2
  have HB1 := Lib.hid ((Below.refl w.heap.size w).alloc (Nat.le_refl _) (.cells #[.func (.func 99) #[] #[.pointer (some ⟨b + 1, 0, none⟩)], .func (.func 100) #[] #[.pointer (some ⟨b, 0, none⟩), .pointer (some ⟨b + 1, 0, none⟩)], .func (.func 102) #[] #[.pointer (some ⟨b, 0, none⟩), .pointer (some ⟨b + 1, 0, none⟩)]] 67))
  obtain ⟨m0, m1, m2⟩ := three_at w 67 (.func (.func 99) #[] #[.pointer (some ⟨b + 1, 0, none⟩)]) (.func (.func 100) #[] #[.pointer (some ⟨b, 0, none⟩), .pointer (some ⟨b + 1, 0, none⟩)]) (.func (.func 102) #[] #[.pointer (some ⟨b, 0, none⟩), .pointer (some ⟨b + 1, 0, none⟩)])
  have HM1 := Lib.hid m1
  have HS1 : Hid ((w.alloc (.cells #[.func (.func 99) #[] #[.pointer (some ⟨b + 1, 0, none⟩)], .func (.func 100) #[] #[.pointer (some ⟨b, 0, none⟩), .pointer (some ⟨b + 1, 0, none⟩)], .func (.func 102) #[] #[.pointer (some ⟨b, 0, none⟩), .pointer (some ⟨b + 1, 0, none⟩)]] 67)).heap.size = w.heap.size + 1) := Lib.hid (by simp)
  have HR2 := Lib.hid ((Below.refl (w.alloc (.cells #[.func (.func 99) #[] #[.pointer (some ⟨b + 1, 0, none⟩)], .func (.func 100) #[] #[.pointer (some ⟨b, 0, none⟩), .pointer (some ⟨b + 1, 0, none⟩)], .func (.func 102) #[] #[.pointer (some ⟨b, 0, none⟩), .pointer (some ⟨b + 1, 0, none⟩)]] 67)).heap.size (w.alloc (.cells #[.func (.func 99) #[] #[.pointer (some ⟨b + 1, 0, none⟩)], .func (.func 100) #[] #[.pointer (some ⟨b, 0, none⟩), .pointer (some ⟨b + 1, 0, none⟩)], .func (.func 102) #[] #[.pointer (some ⟨b, 0, none⟩), .pointer (some ⟨b + 1, 0, none⟩)]] 67))).alloc (Nat.le_refl _) (.cells (famC noF) 103))
  have HA2 : Hid (FamAt _ (w.heap.size + 1) noF) := Lib.hid (by have := FamAt.new (w.alloc (.cells #[.func (.func 99) #[] #[.pointer (some ⟨b + 1, 0, none⟩)], .func (.func 100) #[] #[.pointer (some ⟨b, 0, none⟩), .pointer (some ⟨b + 1, 0, none⟩)], .func (.func 102) #[] #[.pointer (some ⟨b, 0, none⟩), .pointer (some ⟨b + 1, 0, none⟩)]] 67)) noF; rw [HS1.out] at this; exact this)
  have HEN := Lib.hid (fun w' (hb : Below w.heap.size w w') => he.kept hb)
  have HIN := Lib.hid (fun X (hX : X < 32) w' (hb : Below w.heap.size w w') => mnIn_any b C v l ok X hX w' (he.kept hb))
  have HV := Lib.hid (fun y (hy : y ∈ ps) => (show ∃ Y : Nat, y = (Y : Int) ∧ Y < 32 from by
    obtain ⟨X, e, hX, -⟩ := isA_lt12c ok.h5 (List.all_eq_true.1 hps y hy)
    exact ⟨X, e, hX⟩))
  have HDF := Lib.hid (dfP_nat ok.h5 hps)
  have HDL := Lib.hid (dfP_len ps)
  have HQL := Lib.hid (fun s => pjL_len (C : Int) l s)
  have HAL := Lib.hid (fun q k => alTo_len (C : Int) l q k)
  have HDE : Hid (dfP ps = lstF (memF ps)) := Lib.hid rfl
  have HRP := Lib.hid (fun w' (hb : Below w.heap.size w w') => hrp.kept hb)
  obtain ⟨q, hq⟩ : ∃ q, q = dfP ps := ⟨_, rfl⟩
  rw [← hq] at HDF HDL HDE ⊢
  clear hq
  obtain ⟨ap, capp, rfl, -⟩ := hrp
  obtain ⟨w1, hw1⟩ : ∃ w', w' = w.alloc (.cells #[.func (.func 99) #[] #[.pointer (some ⟨b + 1, 0, none⟩)], .func (.func 100) #[] #[.pointer (some ⟨b, 0, none⟩), .pointer (some ⟨b + 1, 0, none⟩)], .func (.func 102) #[] #[.pointer (some ⟨b, 0, none⟩), .pointer (some ⟨b + 1, 0, none⟩)]] 67) := ⟨_, rfl⟩
  clear he ok hps
  go_enter Try.func73, Try.ntmps73
  go_wp2_with (refine wpList_alloc_fam rfl rfl ?_)
  rw [← hw1] at HB1 HM1 HS1 HR2 HA2 m0 m1 m2 ⊢
  clear hw1
  go_loopw [13] (fun iv wr => ∃ (k : Nat), k ≤ ps.length ∧ iv = .int .i64 (k : Int) ∧ FamAt wr (w.heap.size + 1) (memF (ps.take k)) ∧ Below w1.heap.size w1 wr) (fun iv _ => ps.length - (intOf iv).toNat)
  case atStart => exact ⟨0, by omega, rfl, by rw [List.take_zero, memF_nil]; exact HA2.out, HR2.out⟩
  case round =>
    obtain ⟨k, hk, rfl, hf1, hb⟩ := hrel
    clear HA2 HR2 m0 m1 m2
    have HF1 := Lib.hid hf1
    have HR := Lib.hid hb
    have HB := Lib.hid (HB1.out.trans (hb.mono HB1.out.size))
    clear hf1 hb
    by_cases hlt : k < ps.length
    · have z0 : (0 : Int) ≤ (k : Int) := by omega
      have z1 : (k : Int) < (ps.length : Int) := by omega
      obtain ⟨x, rfl, hx⟩ := readI_at13 (HRP.out wr HB.out) hlt
      have HT : Hid (ps.take (k + 1) = ps.take k ++ [ps.getD k 0]) := Lib.hid (take_succ_getD ps 0 k hlt)
      obtain ⟨Y, hY, hY32⟩ := HV.out _ (mem_getD13 hlt)
      rw [hY] at hx HT
      have y0 : (0 : Int) ≤ (Y : Int) := by omega
      have y1 : (Y : Int) < 32 := by omega
      have hcy := HF1.out.cell Y hY32
      have hfy := HF1.out.frozen Y
      clear hY
      go_wp2_with fail
      go_roundw
      case rel => exact ⟨k + 1, by omega, by go_num, by rw [HT.out, memF_snoc]; exact HF1.out.set Y true, HR.out.setCell (by show w1.heap.size ≤ w.heap.size + 1; rw [HS1.out]; omega) _⟩
      case measure => simp [intOf]; omega
    · obtain rfl : k = ps.length := by omega
      rw [List.take_length] at HF1
      have HFL := Lib.hid (fun w' => famList_any (memF ps) w')
      rw [← HDE.out] at HFL
      go_wp2_with (first | refine wpList_load_fam rfl rfl rfl HF1.out ?_)
      refine (HFL.out _).mono ?_
      rintro e w4 ⟨v4, rfl, o4, b4⟩
      have HB4 := Lib.hid (HB.out.trans (b4.mono HB.out.size))
      have HR4 := Lib.hid (HR.out.trans (b4.mono HR.out.size))
      have HL4 := Lib.hid o4.read
      obtain ⟨a4, c4, rfl, -⟩ := o4.read
      have HM4 := Lib.hid ((HR4.out.cell (World.block_lt_of_cell? w1 _ HM1.out)).trans HM1.out)
      have HAN : Hid (∀ k, alTo (C : Int) l q (k + 1) = alTo (C : Int) l q k ++ pjL (C : Int) l (q.getD k 0)) := Lib.hid (fun k => rfl)
      clear b4 o4 HFL HF1
      have m1 := HM4.out
      go_wp2_with fail
      go_loopw [8, 23] (fun pv iv wr => ∃ (i : Nat), i ≤ q.length ∧ iv = .int .i64 (i : Int) ∧ Hid (OwnD wr w4.heap.size pv (alTo (C : Int) l q i)) ∧ Hid (Below w4.heap.size w4 wr)) (fun _ iv _ => q.length - (intOf iv).toNat)
      case atStart => exact ⟨0, by omega, rfl, Lib.hid (OwnD.nil _ _), Lib.hid (Below.refl _ _)⟩
      case round =>
        clear m1
        obtain ⟨i, hi, rfl, HO, HW⟩ := hrel
        obtain ⟨w5, hw⟩ : ∃ w', w' = wr := ⟨_, rfl⟩
        rw [← hw] at HO HW ⊢
        clear hw
        obtain ⟨a8, k8, hv8⟩ := HO.out.shape
        subst hv8
        have y0 : (0 : Int) ≤ (i : Int) := by omega
        have HB5 := Lib.hid (HB4.out.trans (HW.out.mono HB4.out.size))
        by_cases hli : i < q.length
        · have y1 : (i : Int) < (q.length : Int) := by omega
          obtain ⟨x, rfl, hx⟩ := readI_at13 (HL4.out.kept HW.out) hli
          obtain ⟨Y, hY, hY32⟩ := HDF.out _ (mem_getD13 hli)
          have HNX := Lib.hid (HAN.out i)
          rw [hY] at hx HNX
          have HC := Lib.hid (HIN.out Y hY32)
          have m1 := keep_in HM4.out HW.out
          have hly := HQL.out (Y : Int)
          have hal := HAL.out q i
          have hl32 := HDL.out
          clear hY
          go_wp2_with fail
          refine (HC.out _ HB5.out).mono ?_
          rintro e w7 ⟨vq, rfl, oq, b7⟩
          have HNW := Lib.hid (newsDn13 oq.read)
          have HO7 := Lib.hid (HO.out.below b7 (fun k hk => (HO.out.lt k hk).2))
          have HB7 := Lib.hid (HB5.out.trans (b7.mono HB5.out.size))
          have HW7 := Lib.hid (HW.out.trans (b7.mono HW.out.size))
          obtain ⟨aq, cq, hvq, -⟩ := oq.read
          subst hvq
          clear oq b7 hx m1
          go_wp2_with (at_builtin; refine wpList_append_all2 rfl _ _ 81 26 rfl w4.heap.size 44 i0 (.agg #[.int .i64 0, .int .i64 0]) 2 16 Try.underlying81 Try.underlying26 HI.out.1 HI.out.2.1 HI.out.2.2.1 HI.out.2.2.2 rfl (by decide) _ _ _ rfl HO7.out aq (pjL (C : Int) l (Y : Int)).length cq (depsV (pjL (C : Int) l (Y : Int))) rfl (depsV_len _) (HNW.out _ _ _ rfl) (depsV_one _) (by unfold maxLen; omega) (by omega) HW7.out.size ?_; intro v8 w8 hown8 hgrow8; have HO8 := Lib.hid (OwnD.app13 hown8); have HW8 := Lib.hid (HW7.out.grown hgrow8 HW7.out.size (fun k hk => (HO7.out.lt k hk).1)); clear hown8 hgrow8)
          go_roundw
          case rel => exact ⟨i + 1, by omega, by go_num, Lib.hid (by rw [HNX.out]; exact HO8.out), HW8⟩
          case measure => simp [intOf]; omega
        · obtain rfl : i = q.length := by omega
          go_wp2_with fail
          go_ret
          exact ⟨_, rfl, HO.out.base HB4.out.size, HB5.out⟩
end
end Go.Proofs.Ytcgkfbjdlhapkaa
