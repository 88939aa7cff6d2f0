/- Texts of this claim, merged: AxS, TabOpen. Conditions: as stated. -/
import Derived.Test.YtpnapdhcdhcacaaXa22
import Derived.Test.YtpnapdhcdhcacaaXa30
import Derived.Test.YtpnapdhcdhcacaaXa28
import Derived.Test.YtpnapdhcdhcacaaXa2
import Derived.Deep.Matrix
import Derived.Lib.SmallJoins
import Derived.Deep.RegionHeld3
import Derived.Deep.RegionWith
namespace Go.Proofs.Ytpnapdhcdhcacaa
open Go.RowKit

set_option maxHeartbeats 1600000 in
theorem indexSat_any (v c1 c2 : Value) (p : Int × Int → Bool) (l : List (Int × Int)) (w : World) (hr : ReadD w v l) (hl : l.length ≤ 1048576)
    (HP : ∀ x, x ∈ l → ∀ w', Below w.heap.size w w' → Calls Try.prog 52 #[.agg #[.int .i64 x.1, .int .i64 x.2], c1, c2] w' fun e w'' => e = .returned (.bool (p x)) ∧ Below w'.heap.size w' w'') :
    Calls Try.prog 83 #[v, .func (.func 52) #[] #[c1, c2]] w fun e w' => ∃ i, e = .returned (.int .i64 i) ∧ IxOk (l.any p) i ∧ Below w.heap.size w w' := by
  have HQ := Lib.hid HP
  obtain ⟨a, cap, rfl, ha⟩ := hr
  have HA := Lib.hid ha
  clear ha HP
  go_enter Try.func83, Try.ntmps83
  go_wp2_with fail
  go_loopw [8] (fun iv wr => ∃ (k : Nat), k ≤ l.length ∧ iv = .int .i64 (k : Int) ∧ Hid ((l.take k).any p = false) ∧ Below w.heap.size w wr) (fun iv _ => l.length - (intOf iv).toNat)
  case atStart => exact ⟨0, by omega, rfl, Lib.hid rfl, Below.refl _ _⟩
  case round =>
    obtain ⟨k, hk, rfl, hno, hb⟩ := hrel
    by_cases hlt : k < l.length
    · obtain ⟨b, o, rfl, h0, h1⟩ := HA.out k hlt
      replace h0 := (hb.cell (World.block_lt_of_cell? w _ h0)).trans h0
      replace h1 := (hb.cell (World.block_lt_of_cell? w _ h1)).trans h1
      have hm : l.getD k (0, 0) ∈ l := by rw [List.getD_eq_getElem?_getD, List.getElem?_eq_getElem hlt]; exact List.getElem_mem hlt
      have HNO := Lib.hid (any_no p l (0, 0) k hlt hno.out)
      have HYE := Lib.hid (any_yes p l (0, 0) k hlt)
      obtain ⟨⟨y0, y1⟩, hy⟩ : ∃ y, y = l.getD k (0, 0) := ⟨_, rfl⟩
      rw [← hy] at h0 h1 hm HNO HYE
      simp only at h0 h1
      have HC := Lib.hid (HQ.out (y0, y1) hm)
      have HB := Lib.hid hb
      clear hy hm hb
      have z0 : (0 : Int) ≤ (k : Int) := by omega
      have z1 : (k : Int) < (l.length : Int) := by omega
      cases hp : p (y0, y1) with
      | true =>
        have HE := Lib.hid (HYE.out hp)
        rw [hp] at HC
        clear hp
        go_wp2_with fail
        refine (HC.out _ HB.out).mono ?_
        rintro e w1 ⟨rfl, b1⟩
        have hb1 := HB.out.trans (b1.mono HB.out.size)
        clear b1 h0 h1
        go_wp2_with fail
        go_ret
        exact ⟨_, rfl, ⟨fun _ => (by omega), fun h => absurd h (by rw [HE.out]; decide)⟩, hb1⟩
      | false =>
        have HE := Lib.hid (HNO.out hp)
        rw [hp] at HC
        clear hp
        go_wp2_with fail
        refine (HC.out _ HB.out).mono ?_
        rintro e w1 ⟨rfl, b1⟩
        have hb1 := HB.out.trans (b1.mono HB.out.size)
        clear b1 h0 h1
        go_wp2_with fail
        go_roundw
        case rel => exact ⟨k + 1, by omega, by go_num, HE, hb1⟩
        case measure => simp [intOf]; omega
    · obtain rfl : k = l.length := by omega
      go_wp2_with fail
      go_ret
      exact ⟨_, rfl, ⟨fun h => absurd h (by have := hno.out; rw [List.take_length] at this; rw [this]; decide), fun _ => rfl⟩, hb⟩
set_option maxHeartbeats 1600000 in
theorem containsSat_any (v c1 c2 : Value) (p : Int × Int → Bool) (l : List (Int × Int)) (w : World) (hr : ReadD w v l) (hl : l.length ≤ 1048576)
    (HP : ∀ x, x ∈ l → ∀ w', Below w.heap.size w w' → Calls Try.prog 52 #[.agg #[.int .i64 x.1, .int .i64 x.2], c1, c2] w' fun e w'' => e = .returned (.bool (p x)) ∧ Below w'.heap.size w' w'') :
    Calls Try.prog 51 #[v, .func (.func 52) #[] #[c1, c2]] w fun e w' => e = .returned (.bool (l.any p)) ∧ Below w.heap.size w w' := by
  have HI := Lib.hid (indexSat_any v c1 c2 p l w hr hl HP)
  clear hr HP
  go_enter Try.func51, Try.ntmps51
  go_wp2_with fail
  refine HI.out.mono ?_
  rintro e w' ⟨i, rfl, hi, hb⟩
  have HX : Hid (l.any p = decide (0 ≤ i)) := Lib.hid (by
    cases h : l.any p with
    | true => exact (decide_eq_true (hi.1 h)).symm
    | false => rw [hi.2 h]; rfl)
  clear hi
  go_wp2_with fail
  go_ret
  exact ⟨ret_b HX.out, hb⟩
set_option maxHeartbeats 1600000 in
theorem satFun_any (c m : Int) (v : Value) (ll : List (List Int)) (_w1 : (Lit.int .i64 m).wf = true) (b : Nat) (d0 d1 : Int) (_w2 : (Lit.int .i64 d0).wf = true) (_w3 : (Lit.int .i64 d1).wf = true) (w : World) (he : Env2 w b c m v ll) (hl : ll.length ≤ 1048576) (ht : ∀ i, i < ll.length → (ll.getD i []).length ≤ 1048576) :
    Calls Try.prog 52 #[.agg #[.int .i64 d0, .int .i64 d1], .pointer (some ⟨b, 0, none⟩), .pointer (some ⟨b + 1, 0, none⟩)] w fun e w' => e = .returned (.bool (!holdsD c ll m d0 d1)) ∧ Below w.heap.size w w' := by
  have hb1 := (Below.refl w.heap.size w).alloc (Nat.le_refl _) (.cells #[.int .i64 d0, .int .i64 d1] 39)
  have HB := Lib.hid hb1
  obtain ⟨c0, c1⟩ := zero2 w 39 (.int .i64 d0) (.int .i64 d1)
  have he' := he.kept hb1
  have HH := Lib.hid (implHoldsDep_any c m d0 d1 v ll _w1 _w2 _w3 (w.alloc (.cells #[.int .i64 d0, .int .i64 d1] 39)) he'.s hl ht)
  obtain ⟨q, hq⟩ : ∃ q, q = holdsD c ll m d0 d1 := ⟨_, rfl⟩
  rw [← hq] at HH ⊢
  obtain ⟨t0, t1, m0, hs⟩ := he'
  obtain ⟨a, cap, rfl, -⟩ := hs
  clear hb1 he ht hq
  go_enter Try.func52, Try.ntmps52
  go_wp2_with fail
  refine HH.out.mono ?_
  rintro e w2 ⟨rfl, b2⟩
  have hb2 := HB.out.trans (b2.mono HB.out.size)
  clear b2 c0 c1 t0 t1 m0
  go_wp2_with fail
  go_ret
  exact ⟨rfl, hb2⟩
set_option maxHeartbeats 3200000 in
theorem implSat_any (c m : Int) (v vl : Value) (ll : List (List Int)) (l : List (Int × Int)) (_w1 : (Lit.int .i64 m).wf = true) (bdl : ∀ d ∈ l, (Lit.int .i64 d.1).wf = true ∧ (Lit.int .i64 d.2).wf = true) (w : World) (hr : ReadSS w v ll) (hl : ll.length ≤ 1048576) (ht : ∀ i, i < ll.length → (ll.getD i []).length ≤ 1048576) (hrd : ReadD w vl l) (hld : l.length ≤ 1048576) :
    Calls Try.prog 22 #[.agg #[.int .i64 c, v], .int .i64 m, vl] w fun e w' => e = .returned (.bool (satB c ll m l)) ∧ Below w.heap.size w w' := by
  have hb1 := (Below.refl w.heap.size w).alloc (Nat.le_refl _) (.cells #[.int .i64 c, v] 26)
  have hb2 := hb1.alloc hb1.size (.cells #[.int .i64 m] 3)
  have he := Env2.mk' (c := c) (m := m) hr 26 3
  have HM := Lib.hid (inMode_any c m v ll _ he.s hl ht)
  have HB := Lib.hid hb2
  have HEV := Lib.hid he
  have HCO := Lib.hid (fun w' (h : Env2 w' w.heap.size c m v ll) (hb : Below w.heap.size w w') => containsSat_any vl (.pointer (some ⟨w.heap.size, 0, none⟩)) (.pointer (some ⟨w.heap.size + 1, 0, none⟩)) (fun d => !holdsD c ll m d.1 d.2) l w' (hrd.kept hb) hld
    (fun x hx w'' hb' => satFun_any c m v ll _w1 w.heap.size x.1 x.2 (bdl x hx).1 (bdl x hx).2 w'' (h.kept hb') hl ht))
  have HE : Hid (satB c ll m l = (!l.any (fun d => !holdsD c ll m d.1 d.2) && fineT c ll m)) := Lib.hid (by
    unfold satB
    rw [List.all_eq_not_any_not])
  obtain ⟨q, hq⟩ : ∃ q, q = l.any (fun d => !holdsD c ll m d.1 d.2) := ⟨_, rfl⟩
  rw [← hq] at HCO HE
  rw [HE.out]
  clear hq HE
  have hs1 : (w.alloc (.cells #[.int .i64 c, v] 26)).heap.size = w.heap.size + 1 := by simp
  obtain ⟨al, capl, rfl, -⟩ := hrd
  cases hf : fineT c ll m with
  | false =>
    rw [hf] at HM
    obtain ⟨t0, t1, m0, hs⟩ := he
    obtain ⟨a, cap, rfl, -⟩ := hs
    clear hf hb1 hb2 ht bdl
    go_enter Try.func22, Try.ntmps22
    go_wp2_with fail
    refine HM.out.mono ?_
    rintro e w1 ⟨rfl, b1⟩
    have hb3 := HB.out.trans (b1.mono HB.out.size)
    clear b1 t0 t1 m0
    go_wp2_with fail
    go_ret
    exact ⟨ret_b (by rw [Bool.and_false]), hb3⟩
  | true =>
    rw [hf] at HM
    obtain ⟨t0, t1, m0, hs⟩ := he
    obtain ⟨a, cap, rfl, -⟩ := hs
    clear hf hb1 hb2 ht bdl
    go_enter Try.func22, Try.ntmps22
    go_wp2_with fail
    refine HM.out.mono ?_
    rintro e w1 ⟨rfl, b1⟩
    have HB3 := Lib.hid (HB.out.trans (b1.mono HB.out.size))
    have HG := Lib.hid (HCO.out w1 (HEV.out.kept b1) HB3.out)
    clear b1 t0 t1 m0
    go_wp2_with fail
    refine HG.out.mono ?_
    rintro e w2 ⟨rfl, b2⟩
    have HB4 := Lib.hid (HB3.out.trans (b2.mono HB3.out.size))
    clear b2
    go_wp2_with fail
    go_ret
    exact ⟨ret_b (by rw [Bool.and_true]), HB4.out⟩
end Go.Proofs.Ytpnapdhcdhcacaa
namespace Go.Proofs.Ytpnapdhcdhcacaa
open Go.ChangeShapes Go.WideShapes Go.Joins Go.RowKit Go.Deep

theorem cellsTab : Try.prog.cellsOf 42 = 2 := by kernel_rfl
section
variable {H : Type} {enc : TypeId × Value → H} {w : World} {base : Nat} {held : Bool}
theorem open_rows {fuel : Nat} {v : Value} {x : DataW H × List MemPlace} (h : DataW.trod enc Try.prog w base (fun _ => true) held fuel 24 [v] = some x) : ∃ ll, ReadSS w v ll ∧ Short ll := by
  rcases open_int_rows Try.underlying24 Try.underlying47 Try.underlying3 (by kernel_rfl) (by kernel_rfl) h with ⟨hcs, -⟩ | ⟨a, len, cap, A, L, C, Z, hcs, -, hl, hm, -, hr⟩
  · simp at hcs
    subst hcs
    exact ⟨[], ReadSS.nil _, ⟨Nat.zero_le _, fun i hi => absurd hi (Nat.not_lt_zero _)⟩⟩
  · simp at hcs
    subst hcs
    have hlen : ((List.range len).map fun r => (Z r).take (L r)).length = len := by simp
    have hget : ∀ i, i < len → ((List.range len).map fun r => (Z r).take (L r)).getD i [] = (Z i).take (L i) := fun i hi => by
      rw [List.getD_eq_getElem?_getD, List.getElem?_eq_getElem (by rw [hlen]; exact hi)]; simp
    have hrl : ∀ i, i < len → ((Z i).take (L i)).length = L i := fun i hi => by
      obtain ⟨-, h1, -, h2, -⟩ := hr i (by omega)
      rw [List.length_take]; omega
    refine ⟨(List.range len).map fun r => (Z r).take (L r), ⟨some a, cap, by rw [hlen], fun i hi => ?_⟩, by rw [hlen]; unfold maxLen at hm; omega, fun i hi => ?_⟩
    · rw [hlen] at hi
      obtain ⟨h0, h1, h2, h3, h4, h5, h6⟩ := hr i (by omega)
      rw [hget i hi]
      refine ⟨a, _, rfl, h0, A i, C i, by rw [hrl i hi], fun j hj => ?_⟩
      rw [hrl i hi] at hj
      cases hA : A i with
      | none => have := h5 hA; omega
      | some a' =>
        refine ⟨a', rfl, ?_⟩
        rw [(h6 a' hA).2 j (by omega)]
        simp only [List.getElem_take]
        rw [List.getD_eq_getElem?_getD, List.getElem?_eq_getElem (by omega)]
        rfl
    · rw [hlen] at hi
      rw [hget i hi, hrl i hi]
      obtain ⟨-, h1, h2, -⟩ := hr i (by omega)
      unfold maxLen at h2; omega
set_option maxRecDepth 20000 in
theorem open_table {r : Reach} {b0 : Nat} {v : Value} {d : DataW H} {p : List MemPlace} (hv : Value.okWide Try.prog w r b0 42 v) (h : DataW.Trod enc Try.prog w base (fun _ => true) held 42 v d p) :
    ∃ (c : Int) (u : Value) (ll : List (List Int)), v = .agg #[.int .i64 c, u] ∧ (Lit.int .i64 c).wf = true ∧ ReadSS w u ll ∧ Short ll := by
  obtain ⟨c0, c1, y0, y1, m, rfl, -, -, hy0, hy1⟩ := open_agg2 Try.underlying42 (by kernel_rfl) cellsTab hv h
  obtain ⟨n, hn, -, hwf⟩ := DataW.trod_int Try.underlying3 hy0
  simp at hn
  subst hn
  obtain ⟨ll, h1, h2⟩ := open_rows hy1
  exact ⟨n, c1, ll, rfl, hwf, h1, h2⟩
end
end Go.Proofs.Ytpnapdhcdhcacaa
