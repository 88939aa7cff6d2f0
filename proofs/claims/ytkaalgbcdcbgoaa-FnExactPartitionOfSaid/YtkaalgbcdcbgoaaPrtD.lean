/- The program's ProductOf, by contract. Conditions: as stated. -/
import Derived.Test.YtkaalgbcdcbgoaaPrtC
import Derived.Test.YtkaalgbcdcbgoaaPgB
import Derived.Test.YtkaalgbcdcbgoaaPgD
namespace Go.Proofs.Ytkaalgbcdcbgoaa
open Go.RowKit

theorem part_i64 {p : List (List Int)} {rows : Int} (h : partP p rows = true) : I64ss p := by
  intro i hi x hx
  obtain ⟨hr, hc⟩ := partP_iff.mp h
  obtain ⟨t, ht, rfl⟩ := mem_getD'.mp hx
  have := (hc i hi).2.2.1 t ht
  omega
theorem r5_five {a0 a1 a2 a3 a4 : Int} (h0 : -9223372036854775808 ≤ a0 ∧ a0 ≤ 9223372036854775807) (h1 : -9223372036854775808 ≤ a1 ∧ a1 ≤ 9223372036854775807) (h2 : -9223372036854775808 ≤ a2 ∧ a2 ≤ 9223372036854775807) (h3 : -9223372036854775808 ≤ a3 ∧ a3 ≤ 9223372036854775807) (h4 : -9223372036854775808 ≤ a4 ∧ a4 ≤ 9223372036854775807) : R5 [a0, a1, a2, a3, a4] := by
  refine ⟨rfl, fun j hj => ?_⟩
  rcases (show j = 0 ∨ j = 1 ∨ j = 2 ∨ j = 3 ∨ j = 4 by omega) with rfl | rfl | rfl | rfl | rfl
  · exact WalkArith.wf_i64 h0
  · exact WalkArith.wf_i64 h1
  · exact WalkArith.wf_i64 h2
  · exact WalkArith.wf_i64 h3
  · exact WalkArith.wf_i64 h4
theorem add_lit (a0 a1 a2 a3 a4 : Int) (x : Int) (B b n : Nat) (g : List Int → List Int) (w : World) (h : Grp w B b n g) (hr : R5 [a0, a1, a2, a3, a4]) (hn : n < 1048576) (hl : (g [a0, a1, a2, a3, a4]).length < 1048576) (hB : B ≤ w.heap.size) :
    Calls Try.prog 36 #[.map (some b), .agg #[.int .i64 a0, .int .i64 a1, .int .i64 a2, .int .i64 a3, .int .i64 a4], .int .i64 x] w fun e w' => e = .returned (.tuple #[]) ∧ Grp w' B b (n + 1) (fun s => if s = [a0, a1, a2, a3, a4] then g s ++ [x] else g s) ∧ Below B w w' :=
  add_any [a0, a1, a2, a3, a4] x B b n g w h hr hn hl hB
theorem keyP_none {p q : List (List Int)} {i : Nat} (h : fcl p (i : Int) = none ∨ fcl q (i : Int) = none) : keyP p q i = none := by
  unfold keyP
  unfold fcl at h
  rw [if_neg]
  rintro ⟨h1, h2⟩
  rcases h with h | h
  · rw [if_neg (by omega)] at h; cases h
  · rw [if_neg (by omega)] at h; cases h
theorem keyP_both {p q : List (List Int)} {i : Nat} {a b : Int} (ha : fcl p (i : Int) = some a) (hb : fcl q (i : Int) = some b) : keyP p q i = some [a, b, 0, 0, 0] := by
  unfold fcl at *
  split at ha
  · cases ha
  · split at hb
    · cases hb
    · cases ha; cases hb
      unfold keyP
      rw [if_pos ⟨by omega, by omega⟩]
theorem prod_ret {p q : List (List Int)} {rows : Int} (hp : partP p rows = true) (hq : partP q rows = true) (hl : p.length ≤ 1048576) (hl' : q.length ≤ 1048576) {w w5 : World} {B : Nat} (hB : w.heap.size ≤ B) (hb : Below w.heap.size w w5) {e : Ending} {w' : World} (h : RetP B (grpOf (keyP p q) rows.toNat) w5 e w') : RetSS (proS p q rows) w e w' := by
  obtain ⟨v, L, rs, rfl, ho, h1, h2, h3, h4, h5, h6⟩ := h
  have e : L = proS p q rows := product_eq hp hq h1 h2 h3 h5 h4 (fun i r hi hk => by
    unfold keyP at hk
    split at hk
    · cases hk
      have := clsI_ge p (i : Int)
      have := clsI_ge q (i : Int)
      exact r5_five (by omega) (by omega) (by omega) (by omega) (by omega)
    · cases hk)
  subst e
  exact ⟨v, rfl, ho.base hB (Nat.le_refl _), hb.trans (h6.mono hB)⟩
set_option maxRecDepth 20000 in
set_option maxHeartbeats 3200000 in
theorem implProductOf_any (v v' : Value) (p q : List (List Int)) (rows : Int) (w : World) (hr : ReadSS w v p) (hr' : ReadSS w v' q) (hl : p.length ≤ 1048576) (ht : tot p ≤ 1048576) (hl' : q.length ≤ 1048576) (ht' : tot q ≤ 1048576) :
    Calls Try.prog 20 #[v, v', .int .i64 rows] w (RetSS (proS p q rows) w) := by
  have HP := Lib.hid (fun w' (hb : Below w.heap.size w w') => implIsPartition_any v p rows w' (hr.kept hb) hl ht)
  have HQ := Lib.hid (fun w' (hb : Below w.heap.size w w') => implIsPartition_any v' q rows w' (hr'.kept hb) hl' ht')
  have hb0 := Below.refl w.heap.size w
  by_cases hp : partP p rows = true
  · by_cases hq : partP q rows = true
    · have HF := Lib.hid (fun w' (hb : Below w.heap.size w w') => firstClasses_any v p w' (hr.kept hb) hl ht (part_i64 hp))
      have HG := Lib.hid (fun w' (hb : Below w.heap.size w w') => firstClasses_any v' q w' (hr'.kept hb) hl' ht' (part_i64 hq))
      have HR := Lib.hid (fun w5 B e w' (hB : w.heap.size ≤ B) (hb : Below w.heap.size w w5) (h : RetP B (grpOf (keyP p q) rows.toNat) w5 e w') => prod_ret hp hq hl hl' hB hb h)
      have hrows := partP_rows hp
      rw [hp] at HP
      rw [hq] at HQ
      obtain ⟨R, rfl⟩ : ∃ R : Nat, rows = (R : Int) := ⟨rows.toNat, by omega⟩
      have HBD := Lib.hid (fun x c (h : fcl p x = some c) => fcl_bd p x c h)
      have HBD2 := Lib.hid (fun x c (h : fcl q x = some c) => fcl_bd q x c h)
      obtain ⟨a, cap, rfl, -⟩ := hr
      obtain ⟨a', cap', rfl, -⟩ := hr'
      have hmm := @run_makeMap Try.prog
      clear hp hq
      go_enter Try.func20, Try.ntmps20
      go_wp2_with fail
      refine (HP.out _ hb0).mono ?_
      rintro e w1 ⟨rfl, hb1⟩
      go_wp2_with fail
      refine (HQ.out _ hb1).mono ?_
      rintro e w2 ⟨rfl, hb2⟩
      replace hb2 := hb1.trans (hb2.mono hb1.size)
      go_wp2_with fail
      refine (HF.out _ hb2).mono ?_
      rintro e w3 ⟨rfl, hm3, hb3⟩
      have hs23 := hb3.size
      replace hb3 := hb2.trans (hb3.mono hb2.size)
      go_wp2_with fail
      refine (HG.out _ hb3).mono ?_
      rintro e w4 ⟨rfl, hm4, hb4⟩
      have hs34 := hb4.size
      have hm34 := hm3.below hb4 hm3.lt
      replace hb4 := hb3.trans (hb4.mono hb3.size)
      have hg5 := (Grp.made w4).congr (grpOf_zero (keyP p q))
      have hbz := (Below.refl w4.heap.size w4).alloc (Nat.le_refl _) (.map #[] 0)
      have hm35 := hm34.below hbz hm34.lt
      have hm45 := hm4.below hbz hm4.lt
      have hb5 := hb4.trans (hbz.mono hb4.size)
      have hs4 := hb4.size
      have hl3 := hm3.lt
      have hl4 := hm4.lt
      clear hm3 hm4 hm34 hb4 hb3 hb2 hb1
      go_wp2_with fail
      go_loopw [10] (fun iv wr => ∃ i : Nat, i ≤ R ∧ iv = .int .i64 (i : Int) ∧ Grp wr w4.heap.size w4.heap.size i (grpOf (keyP p q) i) ∧ MapI wr w2.heap.size 1048576 (fcl p) ∧ MapI wr w3.heap.size 1048576 (fcl q) ∧ Below w.heap.size w wr) (fun iv _ => R - (intOf iv).toNat)
      case atStart => exact ⟨0, by omega, rfl, hg5, hm35, hm45, hb5⟩
      case round =>
        clear hg5 hm35 hm45 hb5 hbz
        obtain ⟨i, hi, rfl, hg, hm, hn, hb⟩ := hrel
        obtain ⟨w9, hw9⟩ : ∃ w', w' = wr := ⟨_, rfl⟩
        rw [← hw9] at hg hm hn hb ⊢
        clear hw9
        have hml := hm.lt
        have hnl := hn.lt
        have hgl := hg.lt
        by_cases hlt : i < R
        · have hiw : (Lit.int .i64 (i : Int)).wf = true := WalkArith.wf_i64 (by omega)
          have z0 : (i : Int) < (R : Int) := by omega
          cases hfp : fcl p (i : Int) with
          | none =>
            have hk := keyP_none (p := p) (q := q) (i := i) (.inl hfp)
            have HGN := Lib.hid (hg.congr (grpOf_none hk))
            cases hfq : fcl q (i : Int) with
            | none =>
              have HFP := Lib.hid hfp
              have HFQ := Lib.hid hfq
              clear hfp hfq hk hg
              go_wp2_with (first
                | (at_lookup; refine mapI_look_none _ rfl _ _ rfl w2.heap.size 1048576 (fcl p) rfl hm _ rfl hiw HFP.out ?_)
                | (at_lookup; refine mapI_look_none _ rfl _ _ rfl w3.heap.size 1048576 (fcl q) rfl hn _ rfl hiw HFQ.out ?_))
              go_round
              case rel => exact ⟨i + 1, by omega, by go_num, HGN.out.mono (by omega), hm, hn, hb⟩
              case measure => simp [intOf]; omega
            | some d =>
              have HFP := Lib.hid hfp
              have HFQ := Lib.hid hfq
              clear hfp hfq hk hg
              go_wp2_with (first
                | (at_lookup; refine mapI_look_none _ rfl _ _ rfl w2.heap.size 1048576 (fcl p) rfl hm _ rfl hiw HFP.out ?_)
                | (at_lookup; refine mapI_look_some _ rfl _ _ rfl w3.heap.size 1048576 (fcl q) rfl hn _ _ rfl hiw HFQ.out ?_))
              go_round
              case rel => exact ⟨i + 1, by omega, by go_num, HGN.out.mono (by omega), hm, hn, hb⟩
              case measure => simp [intOf]; omega
          | some c =>
            cases hfq : fcl q (i : Int) with
            | none =>
              have hk := keyP_none (p := p) (q := q) (i := i) (.inr hfq)
              have HGN := Lib.hid (hg.congr (grpOf_none hk))
              have HFP := Lib.hid hfp
              have HFQ := Lib.hid hfq
              clear hfp hfq hk hg
              go_wp2_with (first
                | (at_lookup; refine mapI_look_some _ rfl _ _ rfl w2.heap.size 1048576 (fcl p) rfl hm _ _ rfl hiw HFP.out ?_)
                | (at_lookup; refine mapI_look_none _ rfl _ _ rfl w3.heap.size 1048576 (fcl q) rfl hn _ rfl hiw HFQ.out ?_))
              go_round
              case rel => exact ⟨i + 1, by omega, by go_num, HGN.out.mono (by omega), hm, hn, hb⟩
              case measure => simp [intOf]; omega
            | some d =>
              have HK := Lib.hid (keyP_both hfp hfq)
              have h1 := HBD.out _ _ hfp
              have h2 := HBD2.out _ _ hfq
              have hlen := grpOf_len (keyP p q) i [c, d, 0, 0, 0]
              have HFP := Lib.hid hfp
              have HFQ := Lib.hid hfq
              have HA := Lib.hid (fun w' (hb : Below w9.heap.size w9 w') => add_lit c d 0 0 0 (i : Int) w4.heap.size w4.heap.size i (grpOf (keyP p q) i) w' (hg.kept hb) (r5_five (by omega) (by omega) (by omega) (by omega) (by omega)) (by omega) (by omega) (by have := hb.size; omega))
              have hb9 := Below.refl w9.heap.size w9
              clear hfp hfq hg hlen h1 h2
              go_wp2_with (first
                | (at_lookup; refine mapI_look_some _ rfl _ _ rfl w2.heap.size 1048576 (fcl p) rfl hm _ _ rfl hiw HFP.out ?_)
                | (at_lookup; refine mapI_look_some _ rfl _ _ rfl w3.heap.size 1048576 (fcl q) rfl hn _ _ rfl hiw HFQ.out ?_))
              refine (HA.out _ hb9).mono ?_
              rintro e w6 ⟨rfl, hg6, hb6⟩
              have hg7 := hg6.congr (grpOf_some HK.out)
              have hm6 := hm.below hb6 (by omega)
              have hn6 := hn.below hb6 (by omega)
              have hb7 := hb.trans (hb6.mono (by omega))
              clear hg6 hb6 hm hn hb hb9
              go_wp2_with fail
              go_round
              case rel => exact ⟨i + 1, by omega, by go_num, hg7, hm6, hn6, hb7⟩
              case measure => simp [intOf]; omega
        · obtain rfl : i = R := by omega
          have HE := Lib.hid (fun e w' (h : RetP w4.heap.size (grpOf (keyP p q) i) w9 e w') => HR.out w9 w4.heap.size e w' (by omega) hb (by rw [show ((i : Int)).toNat = i from rfl]; exact h))
          have HPT := Lib.hid (partition_any w4.heap.size w4.heap.size i (grpOf (keyP p q) i) w9 hg (by omega) (fun r => by have := grpOf_len (keyP p q) i r; omega) (by omega))
          clear hm hn hg HR
          go_wp2_with fail
          refine HPT.out.mono ?_
          rintro e w6 hret
          obtain ⟨v, L, rs, rfl, h⟩ := id hret
          have HF := Lib.hid (HE.out _ _ hret)
          clear h hret
          go_wp2_with fail
          go_ret
          exact HF.out
    · have hq : partP q rows = false := by cases h : partP q rows with
        | false => rfl
        | true => exact absurd h hq
      rw [hp] at HP
      rw [hq] at HQ
      have he : proS p q rows = [] := by unfold proS; rw [hq]; simp
      rw [he]
      obtain ⟨a, cap, rfl, -⟩ := hr
      obtain ⟨a', cap', rfl, -⟩ := hr'
      clear hp hq he
      go_enter Try.func20, Try.ntmps20
      go_wp2_with fail
      refine (HP.out _ hb0).mono ?_
      rintro e w1 ⟨rfl, hb1⟩
      go_wp2_with fail
      refine (HQ.out _ hb1).mono ?_
      rintro e w2 ⟨rfl, hb2⟩
      replace hb2 := hb1.trans (hb2.mono hb1.size)
      go_wp2_with fail
      go_ret
      exact ⟨_, rfl, OwnSS.nil _ _ _, hb2⟩
  · have hp : partP p rows = false := by cases h : partP p rows with
      | false => rfl
      | true => exact absurd h hp
    rw [hp] at HP
    have he : proS p q rows = [] := by unfold proS; rw [hp]; simp
    rw [he]
    obtain ⟨a, cap, rfl, -⟩ := hr
    obtain ⟨a', cap', rfl, -⟩ := hr'
    clear hp he HQ
    go_enter Try.func20, Try.ntmps20
    go_wp2_with fail
    refine (HP.out _ hb0).mono ?_
    rintro e w1 ⟨rfl, hb1⟩
    go_wp2_with fail
    go_ret
    exact ⟨_, rfl, OwnSS.nil _ _ _, hb1⟩
end Go.Proofs.Ytkaalgbcdcbgoaa
