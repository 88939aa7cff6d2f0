/- Texts of this claim, merged: SpecT2, ClG, ImT, ImE, PcF. Conditions: as stated. -/
import Derived.Test.YtmapiljbhjblhaaUa2
import Derived.Test.YtmapiljbhjblhaaClDm
import Derived.Test.YtmapiljbhjblhaaUa10
import Derived.Test.YtmapiljbhjblhaaUa14
namespace Go.Proofs.Ytmapiljbhjblhaa
open Go.RowKit

set_option maxHeartbeats 800000 in
theorem l2Ints_any (v v' : Value) (l l' : List Int) (w : World) (hr : ReadI w v l) (hr' : ReadI w v' l') (hl : l.length ≤ 1000000000) :
    Calls Try.prog 58 #[v, v'] w fun e w' => e = .returned (.bool (eqB l l')) ∧ ∃ m, w' = w.drewN m := by
  obtain ⟨a, cap, rfl, ha⟩ := hr
  obtain ⟨a', cap', rfl, ha'⟩ := hr'
  have HA := Lib.hid ha
  have HA' := Lib.hid ha'
  clear ha ha'
  by_cases hlen : l.length = l'.length
  · have hne : ((l.length : Int) != (l'.length : Int)) = false := by simp [hlen]
    have HL := Lib.hid hlen
    clear hlen
    go_enter Try.func58, Try.ntmps58
    go_wp2_with fail
    go_loopw [5] (fun iv wr => ∃ (k n : Nat), k ≤ l.length ∧ iv = .int .i64 (k : Int) ∧ Hid (l.take k = l'.take k) ∧ wr = w.drewN n) (fun iv _ => l.length - (intOf iv).toNat)
    case atStart => exact ⟨0, 0, by omega, rfl, Lib.hid rfl, rfl⟩
    case round =>
      obtain ⟨k, n, hk, rfl, hsame, rfl⟩ := hrel
      by_cases hlt : k < l.length
      · have hlt' : k < l'.length := by have := HL.out; omega
        obtain ⟨x, rfl, hx⟩ := HA.out k hlt
        obtain ⟨x', rfl, hx'⟩ := HA'.out k hlt'
        have z0 : (0 : Int) ≤ (k : Int) := by omega
        have z1 : (k : Int) < (l.length : Int) := by omega
        have z2 : (k : Int) < (l'.length : Int) := by omega
        by_cases he : l[k] = l'[k]
        · have hb : (l[k] != l'[k]) = false := by simp [he]
          have HE := Lib.hid he
          clear he
          go_wp2_with fail
          go_quiet (fail)
          go_wp2_with fail
          go_roundw
          case rel => exact ⟨k + 1, _, by omega, by go_num, Lib.hid (by rw [List.take_succ_eq_append_getElem hlt, List.take_succ_eq_append_getElem hlt', hsame.out, HE.out]), rfl⟩
          case measure => simp [intOf]; omega
        · have hb : (l[k] != l'[k]) = true := by simpa using he
          have HE := Lib.hid he
          clear he
          go_wp2_with fail
          go_quiet (fail)
          go_wp2_with fail
          go_ret
          exact ⟨ret_b (by unfold eqB; rw [decide_eq_false]; intro e; apply HE.out; simp only [e]), _, World.drewN_drewN _ _ _⟩
      · go_wp2_with fail
        go_ret
        exact ⟨ret_b (by
          unfold eqB
          rw [decide_eq_true]
          have := hsame.out
          rwa [List.take_of_length_le (by omega), List.take_of_length_le (by have := HL.out; omega)] at this), _, rfl⟩
  · have hne : ((l.length : Int) != (l'.length : Int)) = true := by simp; omega
    have HL := Lib.hid hlen
    clear hlen
    go_enter Try.func58, Try.ntmps58
    go_wp2_with fail
    go_ret
    exact ⟨ret_b (by unfold eqB; rw [decide_eq_false]; intro e; exact HL.out (by rw [e])), 0, rfl⟩

/-- The cells of two boxed tables, later. -/
theorem box4 {w wr : World} {c c' : Int} {v v' : Value} {T : TypeId} (hb : Below ((w.alloc (.cells #[.int .i64 c, v] T)).alloc (.cells #[.int .i64 c', v'] T)).heap.size ((w.alloc (.cells #[.int .i64 c, v] T)).alloc (.cells #[.int .i64 c', v'] T)) wr) :
    (wr.cell? ⟨w.heap.size, 0, none⟩ = some (.int .i64 c) ∧ wr.cell? ⟨w.heap.size, 1, none⟩ = some v) ∧ wr.cell? ⟨w.heap.size + 1, 0, none⟩ = some (.int .i64 c') ∧ wr.cell? ⟨w.heap.size + 1, 1, none⟩ = some v' := by
  have h1 := box2 (w := w) ((Below.refl _ _).alloc (Nat.le_refl _) (.cells #[.int .i64 c', v'] T) |>.trans (hb.mono (by simp)))
  have h2 := box2 (w := w.alloc (.cells #[.int .i64 c, v] T)) hb
  exact ⟨h1, by simpa using h2⟩
/-- What is held of a region in which tables are loaded and copied: the cells of two boxes, and the second table's rows. -/
theorem keepT {w5 w6 w7 : World} {p q r t : Addr} {u0 u1 u2 u3 : Value} {vx : Value} {ll : List (List Int)} (h : (w6.cell? p = some u0 ∧ w6.cell? q = some u1) ∧ (w6.cell? r = some u2 ∧ w6.cell? t = some u3) ∧ ReadSS w6 vx ll ∧ Below w5.heap.size w5 w6) (hb : Below w6.heap.size w6 w7) :
    (w7.cell? p = some u0 ∧ w7.cell? q = some u1) ∧ (w7.cell? r = some u2 ∧ w7.cell? t = some u3) ∧ ReadSS w7 vx ll ∧ Below w5.heap.size w5 w7 := by
  have k : ∀ {a : Addr} {u : Value}, w6.cell? a = some u → w7.cell? a = some u := fun e => (hb.cell (World.block_lt_of_cell? w6 _ e)).trans e
  exact ⟨⟨k h.1.1, k h.1.2⟩, ⟨k h.2.1.1, k h.2.1.2⟩, h.2.2.1.kept hb, h.2.2.2.trans (hb.mono h.2.2.2.size)⟩
theorem keepQ {w5 w6 w7 : World} {p q r t : Addr} {u0 u1 u2 u3 : Value} (h : ((w6.cell? p = some u0 ∧ w6.cell? q = some u1) ∧ w6.cell? r = some u2 ∧ w6.cell? t = some u3) ∧ Below w5.heap.size w5 w6) (hb : Below w6.heap.size w6 w7) :
    ((w7.cell? p = some u0 ∧ w7.cell? q = some u1) ∧ w7.cell? r = some u2 ∧ w7.cell? t = some u3) ∧ Below w5.heap.size w5 w7 := by
  have k : ∀ {a : Addr} {u : Value}, w6.cell? a = some u → w7.cell? a = some u := fun e => (hb.cell (World.block_lt_of_cell? w6 _ e)).trans e
  exact ⟨⟨⟨k h.1.1.1, k h.1.1.2⟩, k h.1.2.1, k h.1.2.2⟩, h.2.trans (hb.mono h.2.size)⟩
end Go.Proofs.Ytmapiljbhjblhaa
namespace Go.Proofs.Ytmapiljbhjblhaa
open Go.RowKit

theorem brd_len (g : Nat → Bool) : ∀ n, (brdTo g n).length ≤ n
  | 0 => Nat.le_refl _
  | n + 1 => by
    have ih := brd_len g n
    have h : brdTo g (n + 1) = if g n = true then brdTo g n ++ [(n : Int)] else brdTo g n := rfl
    rw [h]
    split
    · rw [List.length_append]; simp; omega
    · omega
theorem clsL_len (n : Int) (l : List (Int × Int)) : (clsL n l).length ≤ 32 := by
  unfold clsL
  split
  · rename_i h
    obtain ⟨C, rfl, -, hC, -⟩ := arD_n h
    exact Nat.le_trans (brd_len _ _) (two5 hC)
  · exact Nat.zero_le _
section
set_option maxRecDepth 20000
set_option maxHeartbeats 3200000
theorem closedSets10_any (v : Value) (n : Int) (l : List (Int × Int)) (w : World) (hr : ReadD w v l) (hl : l.length ≤ 1048576) :
    Calls Try.prog 30 #[.int .i64 n, v] w (RetI (clsL n l) w) := by
  obtain ⟨i0, hi, hz0, hz1, hz2⟩ := info_parts info3i
  have HI : Hid (_ ∧ _ ∧ _ ∧ _) := Lib.hid ⟨hi, hz0, hz1, hz2⟩
  clear hi hz0 hz1 hz2
  have HAD := Lib.hid (fun w' (hb : Below w.heap.size w w') => areDeps10_any v n l w' (hr.kept hb) hl)
  have ho0 : OwnI (w.alloc (.cells #[] 3)) w.heap.size (.slice (some ⟨w.heap.size, 0, none⟩) 0 0) [] := OwnI.made (World.ownsRow_made w #[] 0 (Nat.le_refl _) (by unfold maxLen; omega) rfl)
  have hb0 := (Below.refl w.heap.size w).alloc (Nat.le_refl _) (.cells #[] 3)
  cases ha : arD n l with
  | false =>
    rw [ha] at HAD
    have HE : Hid (clsL n l = []) := Lib.hid (by unfold clsL; rw [ha]; rfl)
    obtain ⟨a, cap, rfl, -⟩ := hr
    clear ha
    go_enter Try.func30, Try.ntmps30
    go_wp2_with fail
    go_loopw [5, 6] (fun ov xv wr => ov = .slice (some ⟨w.heap.size, 0, none⟩) 0 0 ∧ xv = .int .i64 0 ∧ wr = w.alloc (.cells #[] 3)) (fun _ _ _ => 0)
    case atStart => exact ⟨rfl, rfl, rfl⟩
    case round =>
      obtain ⟨rfl, rfl, rfl⟩ := hrel
      have HO := Lib.hid ho0
      have HB := Lib.hid hb0
      have HQ := Lib.hid (HAD.out _ hb0)
      clear ho0 hb0
      go_wp2_with fail
      refine HQ.out.mono ?_
      rintro e w2 ⟨rfl, b2⟩
      have HO2 := Lib.hid (HO.out.kept b2 (fun k hk => (OwnI.lt HO.out k hk).2))
      have HB2 := Lib.hid (HB.out.trans (b2.mono HB.out.size))
      clear b2
      go_wp2_with fail
      go_ret
      exact ⟨_, rfl, by rw [HE.out]; exact HO2.out, HB2.out⟩
  | true =>
    rw [ha] at HAD
    obtain ⟨C, rfl, hC1, hC5, -, hd⟩ := arD_n ha
    have HE : Hid (clsL (C : Int) l = brdTo (clB l) (2 ^ C)) := Lib.hid (by unfold clsL; rw [ha]; rfl)
    have HC := Lib.hid (fun (x : Nat) (hx : x < 32) w' (hb : Below w.heap.size w w') => close10_any C hC5 v l hd x hx w' (hr.kept hb) hl)
    have HCL := Lib.hid (fun (x : Nat) (hx : x < 32) => clo_cl hC5 hd hx)
    have HBS : Hid (∀ x : Nat, brdTo (clB l) (x + 1) = if clB l x = true then brdTo (clB l) x ++ [(x : Int)] else brdTo (clB l) x) := Lib.hid (fun _ => rfl)
    have HBL := Lib.hid (brd_len (clB l))
    obtain ⟨M, hM, hM31, hMZ⟩ : ∃ M : Nat, M + 1 = 2 ^ C ∧ M ≤ 31 ∧ ((2 : Int) ^ C - 1) = (M : Int) := by
      have h32 := two5 hC5
      have hp : 0 < 2 ^ C := Nat.pow_pos (by omega)
      have hz : ((2 ^ C : Nat) : Int) = (2 : Int) ^ C := by rw [Int.natCast_pow]; rfl
      exact ⟨2 ^ C - 1, by omega, by omega, by omega⟩
    have HAL : Hid (∀ w', Calls Try.prog 56 #[.int .i64 (C : Int)] w' fun e w'' => e = .returned (.int .i64 (M : Int)) ∧ w' = w'') := Lib.hid (fun w' => by have h := all_any (C : Int) w' (by omega) (by omega); rw [show ((C : Int)).toNat = C from rfl, hMZ] at h; exact h)
    rw [← hM] at HE
    have HO := Lib.hid ho0
    have HB := Lib.hid hb0
    obtain ⟨a, cap, rfl, -⟩ := hr
    clear ha hd ho0 hb0 hM hMZ
    go_enter Try.func30, Try.ntmps30
    go_wp2_with fail
    go_loopw [5, 6] (fun ov xv wr => ∃ x : Nat, x ≤ M + 1 ∧ xv = .int .i64 (x : Int) ∧ Hid (OwnI wr w.heap.size ov (brdTo (clB l) x)) ∧ Hid (Below w.heap.size w wr)) (fun _ xv _ => M + 1 - (intOf xv).toNat)
    case atStart => exact ⟨0, by omega, rfl, HO, HB⟩
    case round =>
      clear HO HB
      obtain ⟨x, hx, rfl, HO, HB⟩ := hrel
      obtain ⟨w3, hw⟩ : ∃ w', w' = wr := ⟨_, rfl⟩
      rw [← hw] at HO HB ⊢
      clear hw
      have HQ := Lib.hid (HAD.out _ HB.out)
      have hql := HBL.out x
      have hbs := HBS.out x
      obtain ⟨q, hq⟩ : ∃ q, q = brdTo (clB l) x := ⟨_, rfl⟩
      rw [← hq] at HO hql hbs
      have z0 : (0 : Int) ≤ (x : Int) := by omega
      by_cases hlt : x ≤ M
      · have z1 : (x : Int) ≤ (M : Int) := by omega
        have hcl := HCL.out x (by omega)
        have HCX := Lib.hid (HC.out x (by omega))
        obtain ⟨y, hy⟩ : ∃ y, y = clo l x := ⟨_, rfl⟩
        rw [← hy] at hcl HCX
        have hyz : ((y : Int) == (x : Int)) = (y == x) := by rw [Bool.eq_iff_iff, beq_iff_eq, beq_iff_eq]; omega
        rw [hcl] at hyz
        have HBSX := Lib.hid hbs
        clear hq hy hcl hbs
        go_wp2_with fail
        refine HQ.out.mono ?_
        rintro e w4 ⟨rfl, b4⟩
        have HO4 := Lib.hid (HO.out.kept b4 (fun k hk => (OwnI.lt HO.out k hk).2))
        have HB4 := Lib.hid (HB.out.trans (b4.mono HB.out.size))
        clear b4
        go_wp2_with fail
        refine (HAL.out _).mono ?_
        rintro e w' ⟨rfl, rfl⟩
        go_wp2_with fail
        refine (HCX.out _ HB4.out).mono ?_
        rintro e w5 ⟨rfl, b5⟩
        have HO5 := Lib.hid (HO4.out.kept b5 (fun k hk => (OwnI.lt HO4.out k hk).2))
        have HB5 := Lib.hid (HB4.out.trans (b5.mono HB4.out.size))
        clear b5
        cases hc : clB l x with
        | true =>
          rw [hc] at hyz HBSX
          have ho6 := HO5.out
          clear hc
          go_wp2_with (at_builtin; refine wpList_append_own _ rfl _ _ 48 rfl w.heap.size 3 i0 (.int .i64 0) 1 8 Try.underlying48 HI.out.1 HI.out.2.1 HI.out.2.2.1 HI.out.2.2.2 rfl (by decide) _ _ _ rfl (World.ownsRow.alloc ho6 _) ⟨w5.heap.size, 0, none⟩ 1 1 [.int .i64 (x : Int)] rfl rfl (cell_one_new _ _ _) (one_i64 _) (by unfold maxLen; omega) (by omega) (by have := HB5.out.size; simp; omega) ?_; intro v7 w7 hown7 hgrow7 _; have HO7 := Lib.hid (OwnI.snoc hown7); have HB7 := Lib.hid ((HB5.out.alloc HB5.out.size (.cells #[.int .i64 (x : Int)] 3)).grown hgrow7 (by rw [World.size_alloc]; have := HB5.out.size; omega) (fun k hk => (OwnI.lt HO5.out k hk).1)); clear hown7 hgrow7 ho6)
          go_roundw
          case rel => exact ⟨x + 1, by omega, by go_num, by rw [HBSX.out, if_pos (by first | trivial | rfl)]; exact HO7, HB7⟩
          case measure => simp [intOf]; omega
        | false =>
          rw [hc] at hyz HBSX
          clear hc
          go_wp2_with fail
          go_roundw
          case rel => exact ⟨x + 1, by omega, by go_num, by rw [HBSX.out, if_neg (by decide)]; exact HO5, HB5⟩
          case measure => simp [intOf]; omega
      · obtain rfl : x = M + 1 := by omega
        rw [hq] at HO
        have zM : ¬ (((M + 1 : Nat) : Int) ≤ (M : Int)) := by omega
        clear hq hql hbs
        go_wp2_with fail
        refine HQ.out.mono ?_
        rintro e w4 ⟨rfl, b4⟩
        have HO4 := Lib.hid (HO.out.kept b4 (fun k hk => (OwnI.lt HO.out k hk).2))
        have HB4 := Lib.hid (HB.out.trans (b4.mono HB.out.size))
        clear b4
        go_wp2_with fail
        refine (HAL.out _).mono ?_
        rintro e w' ⟨rfl, rfl⟩
        go_wp2_with fail
        go_ret
        exact ⟨_, rfl, by rw [HE.out]; exact HO4.out, HB4.out⟩
theorem sameMeaning10_any (v v' : Value) (n : Int) (l l' : List (Int × Int)) (w : World) (hr : ReadD w v l) (hl : l.length ≤ 1048576) (hr' : ReadD w v' l') (hl' : l'.length ≤ 1048576) :
    Calls Try.prog 35 #[.int .i64 n, v, v'] w fun e w' => e = .returned (.bool (smB n l l')) ∧ Below w.heap.size w w' := by
  have HAD := Lib.hid (areDeps10_any v n l w hr hl)
  have HAE := Lib.hid (fun w' (hb : Below w.heap.size w w') => areDeps10_any v' n l' w' (hr'.kept hb) hl')
  have HCS := Lib.hid (fun w' (hb : Below w.heap.size w w') => closedSets10_any v n l w' (hr.kept hb) hl)
  have HCT := Lib.hid (fun w' (hb : Below w.heap.size w w') => closedSets10_any v' n l' w' (hr'.kept hb) hl')
  have HE : Hid (smB n l l' = (arD n l && (arD n l' && decide (clsL n l = clsL n l')))) := Lib.hid rfl
  have hlen : (clsL n l).length ≤ 1000000000 := Nat.le_trans (clsL_len n l) (by omega)
  obtain ⟨c, hc⟩ : ∃ c, c = clsL n l := ⟨_, rfl⟩
  obtain ⟨d, hd⟩ : ∃ d, d = clsL n l' := ⟨_, rfl⟩
  rw [← hc, ← hd] at HE
  rw [← hc] at HCS hlen
  rw [← hd] at HCT
  obtain ⟨a, cap, rfl, -⟩ := hr
  obtain ⟨a', cap', rfl, -⟩ := hr'
  clear hc hd
  cases ha : arD n l with
  | false =>
    rw [ha] at HAD HE
    clear ha
    go_enter Try.func35, Try.ntmps35
    go_wp2_with fail
    refine HAD.out.mono ?_
    rintro e w2 ⟨rfl, b2⟩
    go_wp2_with fail
    go_ret
    exact ⟨ret_b HE.out, b2⟩
  | true =>
    rw [ha] at HAD HE
    clear ha
    cases hb : arD n l' with
    | false =>
      rw [hb] at HAE HE
      clear hb
      go_enter Try.func35, Try.ntmps35
      go_wp2_with fail
      refine HAD.out.mono ?_
      rintro e w2 ⟨rfl, b2⟩
      go_wp2_with fail
      refine (HAE.out _ b2).mono ?_
      rintro e w3 ⟨rfl, b3⟩
      have HB3 := Lib.hid (b2.trans (b3.mono b2.size))
      clear b2 b3
      go_wp2_with fail
      go_ret
      exact ⟨ret_b HE.out, HB3.out⟩
    | true =>
      rw [hb] at HAE HE
      clear hb
      go_enter Try.func35, Try.ntmps35
      go_wp2_with fail
      refine HAD.out.mono ?_
      rintro e w2 ⟨rfl, b2⟩
      go_wp2_with fail
      refine (HAE.out _ b2).mono ?_
      rintro e w3 ⟨rfl, b3⟩
      have HB3 := Lib.hid (b2.trans (b3.mono b2.size))
      clear b2 b3
      go_wp2_with fail
      refine (HCS.out _ HB3.out).mono ?_
      rintro e w4 ⟨u4, rfl, o4, b4⟩
      have HB4 := Lib.hid (HB3.out.trans (b4.mono HB3.out.size))
      have R4 := Lib.hid o4.read
      clear b4 o4
      obtain ⟨p4, q4, rfl, -⟩ := id R4.out
      go_wp2_with fail
      refine (HCT.out _ HB4.out).mono ?_
      rintro e w5 ⟨u5, rfl, o5, b5⟩
      have HB5 := Lib.hid (HB4.out.trans (b5.mono HB4.out.size))
      have R5 := Lib.hid (R4.out.kept b5)
      have R6 := Lib.hid o5.read
      clear b5 o5
      obtain ⟨p5, q5, rfl, -⟩ := id R6.out
      go_wp2_with fail
      refine (l2Ints_any _ _ _ _ _ R5.out R6.out hlen).mono ?_
      rintro e w6 ⟨rfl, m6, rfl⟩
      have HB6 := Lib.hid (below_drewN HB5.out m6)
      go_wp2_with fail
      go_ret
      exact ⟨ret_b (by rw [HE.out]; rfl), HB6.out⟩
end
end Go.Proofs.Ytmapiljbhjblhaa
namespace Go.Proofs.Ytmapiljbhjblhaa
open Go.RowKit

end Go.Proofs.Ytmapiljbhjblhaa
namespace Go.Proofs.Ytmapiljbhjblhaa
open Go.RowKit

set_option maxHeartbeats 800000 in
theorem slEqual_any (v v' : Value) (l l' : List Int) (w : World) (hr : ReadI w v l) (hr' : ReadI w v' l') (hl : l.length ≤ 1000000000) :
    Calls Try.prog 59 #[v, v'] w fun e w' => e = .returned (.bool (eqB l l')) ∧ ∃ m, w' = w.drewN m := by
  obtain ⟨a, cap, rfl, ha⟩ := hr
  obtain ⟨a', cap', rfl, ha'⟩ := hr'
  have HA := Lib.hid ha
  have HA' := Lib.hid ha'
  clear ha ha'
  by_cases hlen : l.length = l'.length
  · have hne : ((l.length : Int) != (l'.length : Int)) = false := by simp [hlen]
    have HL := Lib.hid hlen
    clear hlen
    go_enter Try.func59, Try.ntmps59
    go_wp2_with fail
    go_loopw [13] (fun iv wr => ∃ (k n : Nat), k ≤ l.length ∧ iv = .int .i64 (k : Int) ∧ Hid (l.take k = l'.take k) ∧ wr = w.drewN n) (fun iv _ => l.length - (intOf iv).toNat)
    case atStart => exact ⟨0, 0, by omega, rfl, Lib.hid rfl, rfl⟩
    case round =>
      obtain ⟨k, n, hk, rfl, hsame, rfl⟩ := hrel
      by_cases hlt : k < l.length
      · have hlt' : k < l'.length := by have := HL.out; omega
        obtain ⟨x, rfl, hx⟩ := HA.out k hlt
        obtain ⟨x', rfl, hx'⟩ := HA'.out k hlt'
        have z0 : (0 : Int) ≤ (k : Int) := by omega
        have z1 : (k : Int) < (l.length : Int) := by omega
        have z2 : (k : Int) < (l'.length : Int) := by omega
        by_cases he : l[k] = l'[k]
        · have hb : (l[k] != l'[k]) = false := by simp [he]
          have HE := Lib.hid he
          clear he
          go_wp2_with fail
          go_quiet (fail)
          go_wp2_with fail
          go_roundw
          case rel => exact ⟨k + 1, _, by omega, by go_num, Lib.hid (by rw [List.take_succ_eq_append_getElem hlt, List.take_succ_eq_append_getElem hlt', hsame.out, HE.out]), rfl⟩
          case measure => simp [intOf]; omega
        · have hb : (l[k] != l'[k]) = true := by simpa using he
          have HE := Lib.hid he
          clear he
          go_wp2_with fail
          go_quiet (fail)
          go_wp2_with fail
          go_ret
          exact ⟨ret_b (by unfold eqB; rw [decide_eq_false]; intro e; apply HE.out; simp only [e]), _, World.drewN_drewN _ _ _⟩
      · go_wp2_with fail
        go_ret
        exact ⟨ret_b (by
          unfold eqB
          rw [decide_eq_true]
          have := hsame.out
          rwa [List.take_of_length_le (by omega), List.take_of_length_le (by have := HL.out; omega)] at this), _, rfl⟩
  · have hne : ((l.length : Int) != (l'.length : Int)) = true := by simp; omega
    have HL := Lib.hid hlen
    clear hlen
    go_enter Try.func59, Try.ntmps59
    go_wp2_with fail
    go_ret
    exact ⟨ret_b (by unfold eqB; rw [decide_eq_false]; intro e; exact HL.out (by rw [e])), 0, rfl⟩

end Go.Proofs.Ytmapiljbhjblhaa
namespace Go.Proofs.Ytmapiljbhjblhaa
open Go.RowKit

section
set_option maxRecDepth 20000
set_option maxHeartbeats 6400000
theorem ixZ_closed (l : List (Int × Int)) (x : Nat) : clB l x = decide (ixZ (fun d : Int × Int => subN d.1.toNat x && !bitB x d.2.toNat) l < 0) := by
  rw [ixZ_neg]
  unfold clB
  congr 1
  funext d
  cases subN d.1.toNat x <;> cases bitB x d.2.toNat <;> rfl
theorem implClosedSets_any (v : Value) (n : Int) (l : List (Int × Int)) (_w0 : (Lit.int .i64 n).wf = true) (bd : ∀ d ∈ l, (Lit.int .i64 d.1).wf = true ∧ (Lit.int .i64 d.2).wf = true) (w : World) (hr : ReadD w v l) (hl : l.length ≤ 1048576) :
    Calls Try.prog 31 #[.int .i64 n, v] w (RetI (clsL n l) w) := by
  obtain ⟨i0, hi, hz0, hz1, hz2⟩ := info_parts info3i
  have HI : Hid (_ ∧ _ ∧ _ ∧ _) := Lib.hid ⟨hi, hz0, hz1, hz2⟩
  clear hi hz0 hz1 hz2
  have HAD := Lib.hid (implAreDeps_any v n l _w0 bd w hr hl)
  clear bd
  cases ha : arD n l with
  | false =>
    rw [ha] at HAD
    have HE : Hid (clsL n l = []) := Lib.hid (by unfold clsL; rw [ha]; rfl)
    obtain ⟨a, cap, rfl, -⟩ := hr
    clear ha
    go_enter Try.func31, Try.ntmps31
    go_wp2_with fail
    refine HAD.out.mono ?_
    rintro e w2 ⟨rfl, b2⟩
    go_wp2_with fail
    go_ret
    exact ⟨_, rfl, by rw [HE.out]; exact (World.ownsRow_nil _ _ _ _ : OwnI w2 w.heap.size (.slice .none 0 0) []), b2⟩
  | true =>
    rw [ha] at HAD
    obtain ⟨C, rfl, hC1, hC5, -, hd⟩ := arD_n ha
    have HE : Hid (clsL (C : Int) l = brdTo (clB l) (2 ^ C)) := Lib.hid (by unfold clsL; rw [ha]; rfl)
    have HC := Lib.hid (fun (x : Nat) (hx : x < 32) w' (hb : Below w.heap.size w w') => firstEnl_any C hC5 v l hd x hx w' (hr.kept hb) hl)
    have HCL := Lib.hid (fun (x : Nat) => ixZ_closed l x)
    have HBS : Hid (∀ x : Nat, brdTo (clB l) (x + 1) = if clB l x = true then brdTo (clB l) x ++ [(x : Int)] else brdTo (clB l) x) := Lib.hid (fun _ => rfl)
    have HBL := Lib.hid (brd_len (clB l))
    obtain ⟨M, hM, hM31, hMZ⟩ : ∃ M : Nat, M + 1 = 2 ^ C ∧ M ≤ 31 ∧ ((2 : Int) ^ C - 1) = (M : Int) := by
      have h32 := two5 hC5
      have hp : 0 < 2 ^ C := Nat.pow_pos (by omega)
      have hz : ((2 ^ C : Nat) : Int) = (2 : Int) ^ C := by rw [Int.natCast_pow]; rfl
      exact ⟨2 ^ C - 1, by omega, by omega, by omega⟩
    have HAL : Hid (∀ w', Calls Try.prog 57 #[.int .i64 (C : Int)] w' fun e w'' => e = .returned (.int .i64 (M : Int)) ∧ w' = w'') := Lib.hid (fun w' => by have h := first_any (C : Int) w' (by omega) (by omega); rw [show ((C : Int)).toNat = C from rfl, hMZ] at h; exact h)
    rw [← hM] at HE
    obtain ⟨a, cap, rfl, -⟩ := hr
    clear ha hd hM hMZ
    go_enter Try.func31, Try.ntmps31
    go_wp2_with fail
    refine HAD.out.mono ?_
    rintro e w2 ⟨rfl, b2⟩
    have HB2 := Lib.hid b2
    clear b2
    go_wp2_with fail
    go_loopw [5, 6] (fun ov xv wr => ∃ x : Nat, x ≤ M + 1 ∧ xv = .int .i64 (x : Int) ∧ Hid (OwnI wr w.heap.size ov (brdTo (clB l) x)) ∧ Hid (Below w.heap.size w wr)) (fun _ xv _ => M + 1 - (intOf xv).toNat)
    case atStart => exact ⟨0, by omega, rfl, Lib.hid (World.ownsRow_nil _ _ _ _ : OwnI w2 w.heap.size (.slice .none 0 0) []), HB2⟩
    case round =>
      clear HB2
      obtain ⟨x, hx, rfl, HO, HB⟩ := hrel
      obtain ⟨w3, hw⟩ : ∃ w', w' = wr := ⟨_, rfl⟩
      rw [← hw] at HO HB ⊢
      clear hw
      have hql := HBL.out x
      have hbs := HBS.out x
      obtain ⟨q, hq⟩ : ∃ q, q = brdTo (clB l) x := ⟨_, rfl⟩
      rw [← hq] at HO hql hbs
      have z0 : (0 : Int) ≤ (x : Int) := by omega
      by_cases hlt : x ≤ M
      · have z1 : (x : Int) ≤ (M : Int) := by omega
        have hcl := HCL.out x
        have HCX := Lib.hid (HC.out x (by omega))
        obtain ⟨y, hy⟩ : ∃ y, y = ixZ (fun d : Int × Int => subN d.1.toNat x && !bitB x d.2.toNat) l := ⟨_, rfl⟩
        rw [← hy] at hcl HCX
        have HBSX := Lib.hid hbs
        clear hq hy hbs
        go_wp2_with fail
        refine (HAL.out _).mono ?_
        rintro e w' ⟨rfl, rfl⟩
        go_wp2_with fail
        refine (HCX.out _ HB.out).mono ?_
        rintro e w5 ⟨rfl, b5⟩
        have HO5 := Lib.hid (HO.out.kept b5 (fun k hk => (OwnI.lt HO.out k hk).2))
        have HB5 := Lib.hid (HB.out.trans (b5.mono HB.out.size))
        clear b5
        cases hc : clB l x with
        | true =>
          rw [hc] at hcl HBSX
          have hneg : y < 0 := by simpa using hcl.symm
          have ho6 := HO5.out
          clear hc hcl
          go_wp2_with (at_builtin; refine wpList_append_own _ rfl _ _ 48 rfl w.heap.size 3 i0 (.int .i64 0) 1 8 Try.underlying48 HI.out.1 HI.out.2.1 HI.out.2.2.1 HI.out.2.2.2 rfl (by decide) _ _ _ rfl (World.ownsRow.alloc ho6 _) ⟨w5.heap.size, 0, none⟩ 1 1 [.int .i64 (x : Int)] rfl rfl (cell_one_new _ _ _) (one_i64 _) (by unfold maxLen; omega) (by omega) (by have := HB5.out.size; simp; omega) ?_; intro v7 w7 hown7 hgrow7 _; have HO7 := Lib.hid (OwnI.snoc hown7); have HB7 := Lib.hid ((HB5.out.alloc HB5.out.size (.cells #[.int .i64 (x : Int)] 3)).grown hgrow7 (by rw [World.size_alloc]; have := HB5.out.size; omega) (fun k hk => (OwnI.lt HO5.out k hk).1)); clear hown7 hgrow7 ho6)
          go_roundw
          case rel => exact ⟨x + 1, by omega, by go_num, by rw [HBSX.out, if_pos (by first | trivial | rfl)]; exact HO7, HB7⟩
          case measure => simp [intOf]; omega
        | false =>
          rw [hc] at hcl HBSX
          have hneg : ¬ y < 0 := fun h => by rw [decide_eq_true h] at hcl; cases hcl
          clear hc hcl
          go_wp2_with fail
          go_roundw
          case rel => exact ⟨x + 1, by omega, by go_num, by rw [HBSX.out, if_neg (by decide)]; exact HO5, HB5⟩
          case measure => simp [intOf]; omega
      · obtain rfl : x = M + 1 := by omega
        rw [hq] at HO
        have zM : ¬ (((M + 1 : Nat) : Int) ≤ (M : Int)) := by omega
        clear hq hql hbs
        go_wp2_with fail
        refine (HAL.out _).mono ?_
        rintro e w' ⟨rfl, rfl⟩
        go_wp2_with fail
        go_ret
        exact ⟨_, rfl, by rw [HE.out]; exact HO.out, HB.out⟩
theorem implSameMeaning_any (v v' : Value) (n : Int) (l l' : List (Int × Int)) (_w0 : (Lit.int .i64 n).wf = true) (bd : ∀ d ∈ l, (Lit.int .i64 d.1).wf = true ∧ (Lit.int .i64 d.2).wf = true) (bd' : ∀ d ∈ l', (Lit.int .i64 d.1).wf = true ∧ (Lit.int .i64 d.2).wf = true) (w : World) (hr : ReadD w v l) (hl : l.length ≤ 1048576) (hr' : ReadD w v' l') (hl' : l'.length ≤ 1048576) :
    Calls Try.prog 36 #[.int .i64 n, v, v'] w fun e w' => e = .returned (.bool (smB n l l')) ∧ Below w.heap.size w w' := by
  have HAD := Lib.hid (implAreDeps_any v n l _w0 bd w hr hl)
  have HAE := Lib.hid (fun w' (hb : Below w.heap.size w w') => implAreDeps_any v' n l' _w0 bd' w' (hr'.kept hb) hl')
  have HCS := Lib.hid (fun w' (hb : Below w.heap.size w w') => implClosedSets_any v n l _w0 bd w' (hr.kept hb) hl)
  have HCT := Lib.hid (fun w' (hb : Below w.heap.size w w') => implClosedSets_any v' n l' _w0 bd' w' (hr'.kept hb) hl')
  have HE : Hid (smB n l l' = (arD n l && (arD n l' && decide (clsL n l = clsL n l')))) := Lib.hid rfl
  have hlen : (clsL n l).length ≤ 1000000000 := Nat.le_trans (clsL_len n l) (by omega)
  obtain ⟨c, hc⟩ : ∃ c, c = clsL n l := ⟨_, rfl⟩
  obtain ⟨d, hd⟩ : ∃ d, d = clsL n l' := ⟨_, rfl⟩
  rw [← hc, ← hd] at HE
  rw [← hc] at HCS hlen
  rw [← hd] at HCT
  obtain ⟨a, cap, rfl, -⟩ := hr
  obtain ⟨a', cap', rfl, -⟩ := hr'
  clear hc hd
  cases ha : arD n l with
  | false =>
    rw [ha] at HAD HE
    clear ha
    go_enter Try.func36, Try.ntmps36
    go_wp2_with fail
    refine HAD.out.mono ?_
    rintro e w2 ⟨rfl, b2⟩
    go_wp2_with fail
    go_ret
    exact ⟨ret_b HE.out, b2⟩
  | true =>
    rw [ha] at HAD HE
    clear ha
    cases hb : arD n l' with
    | false =>
      rw [hb] at HAE HE
      clear hb
      go_enter Try.func36, Try.ntmps36
      go_wp2_with fail
      refine HAD.out.mono ?_
      rintro e w2 ⟨rfl, b2⟩
      go_wp2_with fail
      refine (HAE.out _ b2).mono ?_
      rintro e w3 ⟨rfl, b3⟩
      have HB3 := Lib.hid (b2.trans (b3.mono b2.size))
      clear b2 b3
      go_wp2_with fail
      go_ret
      exact ⟨ret_b HE.out, HB3.out⟩
    | true =>
      rw [hb] at HAE HE
      clear hb
      go_enter Try.func36, Try.ntmps36
      go_wp2_with fail
      refine HAD.out.mono ?_
      rintro e w2 ⟨rfl, b2⟩
      go_wp2_with fail
      refine (HAE.out _ b2).mono ?_
      rintro e w3 ⟨rfl, b3⟩
      have HB3 := Lib.hid (b2.trans (b3.mono b2.size))
      clear b2 b3
      go_wp2_with fail
      refine (HCS.out _ HB3.out).mono ?_
      rintro e w4 ⟨u4, rfl, o4, b4⟩
      have HB4 := Lib.hid (HB3.out.trans (b4.mono HB3.out.size))
      have R4 := Lib.hid o4.read
      clear b4 o4
      obtain ⟨p4, q4, rfl, -⟩ := id R4.out
      go_wp2_with fail
      refine (HCT.out _ HB4.out).mono ?_
      rintro e w5 ⟨u5, rfl, o5, b5⟩
      have HB5 := Lib.hid (HB4.out.trans (b5.mono HB4.out.size))
      have R5 := Lib.hid (R4.out.kept b5)
      have R6 := Lib.hid o5.read
      clear b5 o5
      obtain ⟨p5, q5, rfl, -⟩ := id R6.out
      go_wp2_with fail
      refine (slEqual_any _ _ _ _ _ R5.out R6.out hlen).mono ?_
      rintro e w6 ⟨rfl, m6, rfl⟩
      have HB6 := Lib.hid (below_drewN HB5.out m6)
      go_wp2_with fail
      go_ret
      exact ⟨ret_b (by rw [HE.out]; rfl), HB6.out⟩
end
end Go.Proofs.Ytmapiljbhjblhaa
