/- Rows of triples in the laws: szDerivedS, toDerivedS, eqDerivedS, markDerivedS, heldDerivedS, by contract. Conditions: as stated. -/
import Derived.Test.YtmapiljbhjblhaaUa14
import Derived.Deep.RegionLaw
import Derived.Deep.CutBlock
import Derived.Deep.DeepCutAuto
namespace Go.Proofs.Ytmapiljbhjblhaa
open Go.RowKit

set_option maxHeartbeats 800000 in
theorem szDerivedS_any (v : Value) (ds : List (Int × Int × Int)) (w : World) (hr : ReadT w v ds) (left : Int) (h0 : 0 ≤ left) (h1 : left ≤ 1048576) (hs : ds.length ≤ 9223372036854775807) :
    Calls Try.prog 26 #[v, .int .i64 left] w fun e w' => e = .returned (.int .i64 (szD left ds.length)) ∧ w = w' := by
  obtain ⟨a, cap, rfl, -⟩ := hr
  by_cases hle : (ds.length : Int) ≤ left
  · have HE : Hid (szD left ds.length = left - ds.length) := Lib.hid (by unfold szD; rw [if_pos hle])
    go_enter Try.func26, Try.ntmps26
    go_wp2_with fail
    go_ret
    exact ⟨ret_int HE.out.symm, rfl⟩
  · have HE : Hid (szD left ds.length = -1) := Lib.hid (by unfold szD; rw [if_neg hle])
    have hlt : left < (ds.length : Int) := by omega
    go_enter Try.func26, Try.ntmps26
    go_wp2_with fail
    go_ret
    exact ⟨ret_int HE.out.symm, rfl⟩
theorem box3 (w : World) (T : TypeId) (o o' : Obj) (a b c : Value) : (((w.alloc o).alloc o').alloc (.cells #[a, b, c] T)).cell? ⟨w.heap.size + 2, 0, none⟩ = some a ∧ (((w.alloc o).alloc o').alloc (.cells #[a, b, c] T)).cell? ⟨w.heap.size + 2, 1, none⟩ = some b ∧ (((w.alloc o).alloc o').alloc (.cells #[a, b, c] T)).cell? ⟨w.heap.size + 2, 2, none⟩ = some c := by
  have h := zero3 ((w.alloc o).alloc o') T a b c
  rw [World.size_alloc, World.size_alloc] at h
  exact h
theorem box3' (w : World) (T : TypeId) (o o' : Obj) (a b c : Value) : (((w.alloc o).alloc (.cells #[a, b, c] T)).alloc o').cell? ⟨w.heap.size + 1, 0, none⟩ = some a ∧ (((w.alloc o).alloc (.cells #[a, b, c] T)).alloc o').cell? ⟨w.heap.size + 1, 1, none⟩ = some b ∧ (((w.alloc o).alloc (.cells #[a, b, c] T)).alloc o').cell? ⟨w.heap.size + 1, 2, none⟩ = some c := by
  obtain ⟨h0, h1, h2⟩ := zero3 (w.alloc o) T a b c
  rw [World.size_alloc] at h0 h1 h2
  have hb := (Below.refl ((w.alloc o).alloc (.cells #[a, b, c] T)).heap.size _).alloc (Nat.le_refl _) o'
  exact ⟨(hb.cell (World.block_lt_of_cell? _ _ h0)).trans h0, (hb.cell (World.block_lt_of_cell? _ _ h1)).trans h1, (hb.cell (World.block_lt_of_cell? _ _ h2)).trans h2⟩
theorem toDerived_any (x y z : Int) (w : World) :
    Calls Try.prog 54 #[.agg #[.int .i64 x, .int .i64 y, .int .i64 z]] w fun e w' => e = .returned (.agg #[.int .i64 x, .int .i64 y, .int .i64 z]) ∧ Below w.heap.size w w' := by
  have hb1 := (Below.refl w.heap.size w).alloc (Nat.le_refl _) (.cells #[.int .i64 x, .int .i64 y, .int .i64 z] 72)
  have hb2 := (hb1.alloc hb1.size (.cells #[.int .i64 x, .int .i64 y, .int .i64 z] 66))
  have hb3 := (hb2.alloc hb2.size (.cells #[.int .i64 x, .int .i64 y, .int .i64 z] 66))
  obtain ⟨c0, c1, c2⟩ := zero3 w 72 (.int .i64 x) (.int .i64 y) (.int .i64 z)
  obtain ⟨d0, d1, d2⟩ := box3' w 66 (.cells #[.int .i64 x, .int .i64 y, .int .i64 z] 72) (.cells #[.int .i64 x, .int .i64 y, .int .i64 z] 66) (.int .i64 x) (.int .i64 y) (.int .i64 z)
  go_enter Try.func54, Try.ntmps54
  go_wp2_with fail
  exact bodyPost_ret (v := .agg #[.int .i64 x, .int .i64 y, .int .i64 z]) (by simp [results, Try.results54, go_sem, d0, d1, d2]) rfl ⟨rfl, hb3⟩
set_option maxRecDepth 20000 in
set_option maxHeartbeats 1600000 in
theorem toDerivedS_any (v : Value) (ds : List (Int × Int × Int)) (w : World) (hr : ReadT w v ds) (hl : ds.length ≤ 1048576) :
    Calls Try.prog 28 #[v] w (RetT3 ds w) := by
  obtain ⟨i0, hi, hz0, hz1, hz2⟩ := info_parts infoT3
  have HI : Hid (_ ∧ _ ∧ _ ∧ _) := Lib.hid ⟨hi, hz0, hz1, hz2⟩
  clear hi hz0 hz1 hz2
  obtain ⟨a, cap, rfl, ha⟩ := hr
  have HA := Lib.hid ha
  clear ha
  go_enter Try.func28, Try.ntmps28
  go_wp2_with (at_make; refine wpList_make_full _ rfl _ _ 37 rfl w.heap.size 66 i0 (.agg #[.int .i64 0, .int .i64 0, .int .i64 0]) 3 Try.underlying37 HI.out.1 HI.out.2.1 HI.out.2.2.1 .i64 .i64 _ _ ds.length rfl rfl rfl rfl (by rw [HI.out.2.2.2]; omega) (by unfold maxLen; omega) (Nat.le_refl _) ?_; intro w0 hown0 hgrow0)
  have hown := OwnT3.full hown0
  have hb0 := (Below.refl w.heap.size w).grown hgrow0 (Nat.le_refl _) (by simp)
  clear hown0 hgrow0
  go_loopw [4] (fun iv wr => ∃ (k : Nat) (l : List (Int × Int × Int)), k ≤ ds.length ∧ iv = .int .i64 (k : Int) ∧ OwnT3 wr w.heap.size (.slice (some ⟨w.heap.size, 0, none⟩) ds.length ds.length) l ∧ Hid (l.length = ds.length ∧ l.take k = ds.take k) ∧ Below w.heap.size w wr) (fun iv _ => ds.length - (intOf iv).toNat)
  case atStart => exact ⟨0, _, by omega, rfl, hown, Lib.hid ⟨by simp, by simp⟩, hb0⟩
  case round =>
    clear hown hb0
    obtain ⟨k, l, hk, rfl, ho, HL, hb⟩ := hrel
    obtain ⟨w1, hw1⟩ : ∃ w', w' = wr := ⟨_, rfl⟩
    rw [← hw1] at ho hb ⊢
    clear hw1
    by_cases hlt : k < ds.length
    · obtain ⟨b, o, rfl, h0, h1, h2⟩ := HA.out k hlt
      replace h0 := (hb.cell (World.block_lt_of_cell? w _ h0)).trans h0
      replace h1 := (hb.cell (World.block_lt_of_cell? w _ h1)).trans h1
      replace h2 := (hb.cell (World.block_lt_of_cell? w _ h2)).trans h2
      have z0 : (0 : Int) ≤ (k : Int) := by omega
      have z1 : (k : Int) < (ds.length : Int) := by omega
      obtain ⟨⟨x0, x1, x2⟩, hx⟩ : ∃ z, z = ds.getD k (0, 0, 0) := ⟨_, rfl⟩
      rw [← hx] at h0 h1 h2
      simp only at h0 h1 h2
      have HK := Lib.hid (toDerived_any x0 x1 x2 w1)
      have HX := Lib.hid hx
      have HO := Lib.hid ho
      clear hx ho
      go_wp2_with fail
      refine HK.out.mono ?_
      rintro e w2 ⟨rfl, b2⟩
      have ho2 := HO.out.below b2 (fun k hk => (HO.out.lt k hk).2)
      have hb2 := hb.trans (b2.mono hb.size)
      have hlk : k < l.length := by rw [HL.out.1]; exact hlt
      have ho2' : OwnT3 w2 w.heap.size (.slice (some ⟨w.heap.size, 0, none⟩) ds.length ds.length) l := ho2
      obtain ⟨⟨g0, g1, g2⟩, f0, f1, f2⟩ := ho2'.cells3 k hlk
      have HS := Lib.hid (ho2'.store3 k x0 x1 x2).1
      have hbe := ((hb2.setCell (p := ⟨w.heap.size, k * 3, none⟩) (Nat.le_refl _) (.int .i64 x0)).setCell (p := ⟨w.heap.size, k * 3 + 1, none⟩) (Nat.le_refl _) (.int .i64 x1)).setCell (p := ⟨w.heap.size, k * 3 + 2, none⟩) (Nat.le_refl _) (.int .i64 x2)
      have HN : Hid ((l.set k (x0, x1, x2)).length = ds.length ∧ (l.set k (x0, x1, x2)).take (k + 1) = ds.take (k + 1)) := Lib.hid ⟨by rw [List.length_set]; exact HL.out.1, by
        rw [take_succ_getD ds (0, 0, 0) k hlt, take_succ_getD (l.set k (x0, x1, x2)) (0, 0, 0) k (by rw [List.length_set]; exact hlk), List.take_set_of_le (Nat.le_refl _), HL.out.2, ← HX.out]
        congr 2
        rw [List.getD_eq_getElem?_getD, List.getElem?_set_self hlk]; rfl⟩
      clear ho2'
      clear ho2 b2
      go_wp2_with fail
      go_roundw
      case rel => exact ⟨k + 1, _, by omega, by go_num, HS.out, HN, hbe⟩
      case measure => simp [intOf]; omega
    · obtain rfl : k = ds.length := by omega
      have he : l = ds := by
        have h := HL.out.2
        rw [List.take_length, List.take_of_length_le (by rw [HL.out.1]; exact Nat.le_refl _)] at h
        exact h
      subst he
      go_wp2_with fail
      go_ret
      exact ⟨_, rfl, ho, hb⟩
set_option maxHeartbeats 1600000 in
theorem markT_any (v : Value) (ds : List (Int × Int × Int)) (k : Int) (B : Nat) (w : World) (ho : OwnT3 w B v ds) (hl : ds.length ≤ 1048576) (hk0 : -1000000000 ≤ k) (hk1 : k ≤ 1000000000) :
    Calls Try.prog 24 #[v, .int .i64 k] w fun e w' => e = .returned (.int .i64 (k + 3 * (ds.length : Int))) ∧ OwnT3 w' B v (upT k ds.length) ∧ w.grownBy w' v.ownBlock := by
  rcases ho.2 with ⟨rfl, h0⟩ | ⟨g, cap, cur, rfl, hBg, hgg, -⟩
  · obtain rfl : ds = [] := List.eq_nil_of_length_eq_zero h0
    go_enter Try.func24, Try.ntmps24
    go_wp2_with fail
    refine wp_loop_rounds 1 ?_
    rw [rounds_succ]
    go_wp2_with fail
    go_ret
    exact ⟨ret_int (by simp), by simpa [upT] using ho, World.grownBy.refl _ _⟩
  · clear hgg
    go_enter Try.func24, Try.ntmps24
    go_wp2_with fail
    go_loopw [1, 5] (fun kv iv wr => ∃ j : Nat, j ≤ ds.length ∧ kv = .int .i64 (k + 3 * (j : Int)) ∧ iv = .int .i64 (j : Int) ∧ OwnT3 wr B (.slice (some ⟨g, 0, none⟩) ds.length cap) (upT k j ++ ds.drop j) ∧ w.grownBy wr (some g)) (fun _ iv _ => ds.length - (intOf iv).toNat)
    case atStart => exact ⟨0, by omega, by simp, rfl, by rw [upT_start]; exact ho, World.grownBy.refl _ _⟩
    case round =>
      clear ho
      obtain ⟨j, hj, rfl, rfl, ho', hg⟩ := hrel
      by_cases hlt : j < ds.length
      · obtain ⟨⟨h0, h1, h2⟩, f0, f1, f2⟩ := ho'.cells3 j (by rw [List.length_append, upT_length, List.length_drop]; omega)
        have z0 : (0 : Int) ≤ (j : Int) := by omega
        have z1 : (j : Int) < (ds.length : Int) := by omega
        have z2 : IntKind.i64.wrap (k + 3 * (j : Int) + 1) = k + 3 * (j : Int) + 1 := IntWalk.i64_in _ (by omega)
        have z3 : IntKind.i64.wrap (k + 3 * (j : Int) + 1 + 1) = k + 3 * (j : Int) + 2 := by rw [IntWalk.i64_in _ (by omega)]; omega
        have z4 : IntKind.i64.wrap (k + 3 * (j : Int) + 2 + 1) = k + 3 * (j : Int) + 3 := by rw [IntWalk.i64_in _ (by omega)]; omega
        obtain ⟨s1, s2⟩ := ho'.store3 j (k + 3 * (j : Int)) (k + 3 * (j : Int) + 1) (k + 3 * (j : Int) + 2)
        rw [upT_step k ds j hlt] at s1
        have S1 := Lib.hid s1
        have S2 := Lib.hid s2
        have HG := Lib.hid hg
        clear s1 s2 hg ho'
        go_wp2_with fail
        go_roundw
        case rel => exact ⟨j + 1, by omega, by go_num, by go_num, S1.out, ⟨S2.out.os.trans HG.out.os, S2.out.tape.trans HG.out.tape, S2.out.output.trans HG.out.output, Nat.le_trans HG.out.size S2.out.size, fun q hq hne => (S2.out.block q (Nat.lt_of_lt_of_le hq HG.out.size) hne).trans (HG.out.block q hq hne)⟩⟩
        case measure => simp [intOf]; omega
      · obtain rfl : j = ds.length := by omega
        go_wp2_with fail
        go_ret
        rw [List.drop_eq_nil_of_le (Nat.le_refl _), List.append_nil] at ho'
        exact ⟨rfl, ho', hg⟩
set_option maxHeartbeats 1600000 in
theorem heldT_any (v : Value) (n : Nat) (k : Int) (w : World) (hr : ReadT w v (upT k n)) (hl : n ≤ 1048576) (hk0 : -1000000000 ≤ k) (hk1 : k ≤ 1000000000) :
    Calls Try.prog 25 #[v, .int .i64 k] w fun e w' => e = .returned (.int .i64 (k + 3 * (n : Int))) ∧ w = w' := by
  obtain ⟨a, cap, rfl, ha⟩ := hr
  rw [upT_length]
  have HA : Hid (∀ i, i < n → ∃ b o, a = some ⟨b, o, none⟩ ∧ w.cell? ⟨b, o + i * 3, none⟩ = some (.int .i64 (k + 3 * (i : Int))) ∧ w.cell? ⟨b, o + i * 3 + 1, none⟩ = some (.int .i64 (k + 3 * (i : Int) + 1)) ∧ w.cell? ⟨b, o + i * 3 + 2, none⟩ = some (.int .i64 (k + 3 * (i : Int) + 2))) := Lib.hid fun i hi => by
    obtain ⟨b, o, e1, e2, e3, e4⟩ := ha i (by rw [upT_length]; exact hi)
    rw [upT_get k n i hi] at e2 e3 e4
    exact ⟨b, o, e1, e2, e3, e4⟩
  clear ha
  go_enter Try.func25, Try.ntmps25
  go_wp2_with fail
  go_loop [1, 5] (fun kv iv => ∃ j : Nat, j ≤ n ∧ kv = .int .i64 (k + 3 * (j : Int)) ∧ iv = .int .i64 (j : Int)) (fun _ iv => n - (intOf iv).toNat)
  case atStart => exact ⟨0, by omega, by simp, rfl⟩
  case round =>
    obtain ⟨j, hj, rfl, rfl⟩ := hrel
    by_cases hlt : j < n
    · obtain ⟨b, o, rfl, h0, h1, h2⟩ := HA.out j hlt
      have z0 : (0 : Int) ≤ (j : Int) := by omega
      have z1 : (j : Int) < (n : Int) := by omega
      have z2 : IntKind.i64.wrap (k + 3 * (j : Int) + 1) = k + 3 * (j : Int) + 1 := IntWalk.i64_in _ (by omega)
      have z3 : IntKind.i64.wrap (k + 3 * (j : Int) + 1 + 1) = k + 3 * (j : Int) + 2 := by rw [IntWalk.i64_in _ (by omega)]; omega
      have z4 : IntKind.i64.wrap (k + 3 * (j : Int) + 2 + 1) = k + 3 * (j : Int) + 3 := by rw [IntWalk.i64_in _ (by omega)]; omega
      have hb : (k + 3 * (j : Int) != k + 3 * (j : Int)) = false := by simp
      have hb1 : (k + 3 * (j : Int) + 1 != k + 3 * (j : Int) + 1) = false := by simp
      have hb2 : (k + 3 * (j : Int) + 2 != k + 3 * (j : Int) + 2) = false := by simp
      go_wp2_with fail
      go_round
      case rel => exact ⟨j + 1, by omega, by go_num, by go_num⟩
      case measure => simp [intOf]; omega
    · obtain rfl : j = n := by omega
      go_wp2_with fail
      go_ret
      exact ⟨rfl, rfl⟩
def MarkTs (k : Int) (l : List (Int × Int × Int)) (B C : Nat) (v : Value) (w : World) (e : Ending) (w' : World) : Prop := e = .returned (.int .i64 (k + 3 * (l.length : Int))) ∧ OwnTR w' B C v (upT k l.length) ∧ Mid B C w w'
theorem markTR_any (v : Value) (l : List (Int × Int × Int)) (k : Int) (B C : Nat) (w : World) (ho : OwnTR w B C v l) (hl : l.length ≤ 1048576) (hk0 : -1000000000 ≤ k) (hk1 : k ≤ 1000000000) :
    Calls Try.prog 24 #[v, .int .i64 k] w (MarkTs k l B C v w) :=
  (markT_any v l k B w ho.1 hl hk0 hk1).mono fun _ _ ⟨a, b, c⟩ => ⟨a, ⟨b, ho.2⟩, Mid.ofGrown c fun g hg => ⟨(ho.1.lt g hg).1, ho.2 g hg⟩⟩
theorem heldTR_any (v : Value) (n : Nat) (k : Int) (w : World) (hr : ReadT w v (upT k n)) (hl : n ≤ 1048576) (hk0 : -1000000000 ≤ k) (hk1 : k ≤ 1000000000) :
    Calls Try.prog 25 #[v, .int .i64 k] w fun e w' => e = .returned (.int .i64 (k + 3 * (n : Int))) ∧ Below w.heap.size w w' :=
  (heldT_any v n k w hr hl hk0 hk1).mono fun _ w' ⟨a, b⟩ => ⟨a, by rw [← b]; exact Below.refl _ _⟩
theorem cell_inB9 {w w' : World} {p : Addr} {v : Value} (h : w.cell? p = some v) (b : Below w.heap.size w w') : w'.cell? p = some v := (b.cell (World.block_lt_of_cell? w _ h)).trans h
theorem eqDerived_same (x y z : Int) (w : World) :
    Calls Try.prog 53 #[.agg #[.int .i64 x, .int .i64 y, .int .i64 z], .agg #[.int .i64 x, .int .i64 y, .int .i64 z]] w fun e w' => e = .returned (.bool true) ∧ Below w.heap.size w w' := by
  have hb1 := (Below.refl w.heap.size w).alloc (Nat.le_refl _) (.cells #[.int .i64 x, .int .i64 y, .int .i64 z] 66)
  have hb2 := hb1.alloc hb1.size (.cells #[.int .i64 x, .int .i64 y, .int .i64 z] 66)
  obtain ⟨d0, d1, d2⟩ := zero3 (w.alloc (.cells #[.int .i64 x, .int .i64 y, .int .i64 z] 66)) 66 (.int .i64 x) (.int .i64 y) (.int .i64 z)
  rw [World.size_alloc] at d0 d1 d2
  obtain ⟨c0, c1, c2⟩ := zero3 w 66 (.int .i64 x) (.int .i64 y) (.int .i64 z)
  have hb := (Below.refl (w.alloc (.cells #[.int .i64 x, .int .i64 y, .int .i64 z] 66)).heap.size _).alloc (Nat.le_refl _) (.cells #[.int .i64 x, .int .i64 y, .int .i64 z] 66)
  replace c0 := cell_inB9 c0 hb
  replace c1 := cell_inB9 c1 hb
  replace c2 := cell_inB9 c2 hb
  have n0 : (x != x) = false := by simp
  have n1 : (y != y) = false := by simp
  have n2 : (z != z) = false := by simp
  clear hb hb1
  go_enter Try.func53, Try.ntmps53
  go_wp2_with fail
  go_ret
  exact ⟨rfl, hb2⟩
set_option maxRecDepth 20000 in
set_option maxHeartbeats 1600000 in
/-- A list of steps against a copy of it. -/
theorem eqDerivedS_same (v v' : Value) (d : List (Int × Int × Int)) (w : World) (hr : ReadT w v d) (hr' : ReadT w v' d) (hl : d.length ≤ 1048576) :
    Calls Try.prog 22 #[v, v'] w fun e' w' => e' = .returned (.bool true) ∧ Below w.heap.size w w' := by
  obtain ⟨p, cap, rfl, ha⟩ := hr
  obtain ⟨p', cap', rfl, ha'⟩ := hr'
  have HA := Lib.hid ha
  have HA' := Lib.hid ha'
  clear ha ha'
  go_enter Try.func22, Try.ntmps22
  go_wp2_with fail
  go_loopw [5] (fun iv wr => ∃ i : Nat, i ≤ d.length ∧ iv = .int .i64 (i : Int) ∧ Below w.heap.size w wr) (fun iv _ => d.length - (intOf iv).toNat)
  case atStart => exact ⟨0, by omega, rfl, Below.refl _ _⟩
  case round =>
    obtain ⟨i, hi, rfl, hb⟩ := hrel
    obtain ⟨w1, hw1⟩ : ∃ w', w' = wr := ⟨_, rfl⟩
    rw [← hw1] at hb ⊢
    clear hw1
    by_cases hlt : i < d.length
    · obtain ⟨b, o, rfl, h0, h1, h2⟩ := HA.out i hlt
      obtain ⟨b', o', rfl, h0', h1', h2'⟩ := HA'.out i hlt
      replace h0 := cell_inB9 h0 hb
      replace h1 := cell_inB9 h1 hb
      replace h2 := cell_inB9 h2 hb
      replace h0' := cell_inB9 h0' hb
      replace h1' := cell_inB9 h1' hb
      replace h2' := cell_inB9 h2' hb
      have z0 : (0 : Int) ≤ (i : Int) := by omega
      have z1 : (i : Int) < (d.length : Int) := by omega
      obtain ⟨⟨x0, x1, x2⟩, hx⟩ : ∃ z, z = d.getD i (0, 0, 0) := ⟨_, rfl⟩
      rw [← hx] at h0 h1 h2 h0' h1' h2'
      simp only at h0 h1 h2 h0' h1' h2'
      have HB := Lib.hid hb
      clear hx hb
      go_upto_region 6 with fail
      refine wp_region_noPanic ?_
      refine wp_region_held_drew (S := (fun w' => ((w'.cell? ⟨b, o + i * 3, none⟩ = some (.int .i64 x0) ∧ w'.cell? ⟨b, o + i * 3 + 1, none⟩ = some (.int .i64 x1) ∧ w'.cell? ⟨b, o + i * 3 + 2, none⟩ = some (.int .i64 x2)) ∧ (w'.cell? ⟨b', o' + i * 3, none⟩ = some (.int .i64 x0) ∧ w'.cell? ⟨b', o' + i * 3 + 1, none⟩ = some (.int .i64 x1) ∧ w'.cell? ⟨b', o' + i * 3 + 2, none⟩ = some (.int .i64 x2))) ∧ Below w1.heap.size w1 w')) (by kernel_rfl) ?_ (fun hHeld => ?_)
      · ((try dsimp only); exact ⟨⟨⟨h0, h1, h2⟩, h0', h1', h2'⟩, (Below.refl _ _).drew⟩)
      refine wpAnyH_take (i := 0) (v := ?_) rfl (by kernel_rfl) (by kernel_rfl) (by kernel_rfl) (fun _ _ _ h => h) (Or.inl ⟨by rfl, ?_⟩) (by assumption) ?_
      rotate_left
      · (intro w hSw; (try dsimp only at hSw); go_simp; (try with_reducible rfl))
      (try simp only [Act.put, List.getElem_toArray, List.getElem_cons_zero, List.setIfInBounds_toArray, List.set_cons_zero, List.set_cons_succ])
      refine wpAnyH_take (i := 1) (v := ?_) rfl (by kernel_rfl) (by kernel_rfl) (by kernel_rfl) (fun _ _ _ h => h) (Or.inl ⟨by rfl, ?_⟩) (by assumption) ?_
      rotate_left
      · (intro w hSw; (try dsimp only at hSw); go_simp; (try with_reducible rfl))
      (try simp only [Act.put, List.getElem_toArray, List.getElem_cons_succ, List.getElem_cons_zero, List.setIfInBounds_toArray, List.set_cons_zero, List.set_cons_succ])
      refine wpAnyH_take (i := 2) (v := ?_) rfl (by kernel_rfl) (by kernel_rfl) (by kernel_rfl) (fun _ _ _ h => h) (Or.inl ⟨by rfl, ?_⟩) (by assumption) ?_
      rotate_left
      · (intro w hSw; (try dsimp only at hSw); go_simp; (try with_reducible rfl))
      (try simp only [Act.put, List.getElem_toArray, List.getElem_cons_succ, List.getElem_cons_zero, List.setIfInBounds_toArray, List.set_cons_zero, List.set_cons_succ])
      refine wpAnyH_take (i := 3) (v := ?_) rfl (by kernel_rfl) (by kernel_rfl) (by kernel_rfl) (fun _ _ _ h => h) (Or.inl ⟨by rfl, ?_⟩) (by assumption) ?_
      rotate_left
      · (intro w hSw; (try dsimp only at hSw); go_simp; (try with_reducible rfl))
      (try simp only [Act.put, List.getElem_toArray, List.getElem_cons_succ, List.getElem_cons_zero, List.setIfInBounds_toArray, List.set_cons_zero, List.set_cons_succ])
      refine wpAnyH_take (i := 4) (v := ?_) rfl (by kernel_rfl) (by kernel_rfl) (by kernel_rfl) (fun _ _ _ h => h) (Or.inl ⟨by rfl, ?_⟩) (by assumption) ?_
      rotate_left
      · (intro w hSw; (try dsimp only at hSw); go_simp; (try with_reducible rfl))
      (try simp only [Act.put, List.getElem_toArray, List.getElem_cons_succ, List.getElem_cons_zero, List.setIfInBounds_toArray, List.set_cons_zero, List.set_cons_succ])
      refine wpAnyH_take (i := 5) (v := ?_) rfl (by kernel_rfl) (by kernel_rfl) (by kernel_rfl) (fun _ _ _ h => h) (Or.inl ⟨by rfl, ?_⟩) (by assumption) ?_
      rotate_left
      · (intro w hSw; (try dsimp only at hSw); go_simp; (try with_reducible rfl))
      (try simp only [Act.put, List.getElem_toArray, List.getElem_cons_succ, List.getElem_cons_zero, List.setIfInBounds_toArray, List.set_cons_zero, List.set_cons_succ])
      refine wpAnyH_take (i := 6) (v := ?_) rfl (by kernel_rfl) (by kernel_rfl) (by kernel_rfl) (fun _ _ _ h => h) (Or.inl ⟨by rfl, ?_⟩) (by assumption) ?_
      rotate_left
      · (intro w hSw; (try dsimp only at hSw); go_simp; (try with_reducible rfl))
      (try simp only [Act.put, List.getElem_toArray, List.getElem_cons_succ, List.getElem_cons_zero, List.setIfInBounds_toArray, List.set_cons_zero, List.set_cons_succ])
      refine wpAnyH_take (i := 7) (v := ?_) rfl (by kernel_rfl) (by kernel_rfl) (by kernel_rfl) (fun _ _ _ h => h) (Or.inl ⟨by rfl, ?_⟩) (by assumption) ?_
      rotate_left
      · (intro w hSw; (try dsimp only at hSw); go_simp; (try with_reducible rfl))
      (try simp only [Act.put, List.getElem_toArray, List.getElem_cons_succ, List.getElem_cons_zero, List.setIfInBounds_toArray, List.set_cons_zero, List.set_cons_succ])
      refine wpAnyH_ready (rs := [8]) (by kernel_rfl) (by simp) (AllReadyH.cons rfl (fun K hK => ?_) AllReadyH.nil)
      (first | (go_at_call 53; refine (eqDerived_same x0 x1 x2 _).mono ?_; rintro e w91 ⟨rfl, b91⟩) | (go_simp; go_at_call 53; refine (eqDerived_same x0 x1 x2 _).mono ?_; rintro e w91 ⟨rfl, b91⟩))
      (try (go_wp2_with fail))
      refine hK.out _ _ ?_ (fun hHeld => ?_)
      · ((try dsimp only); exact ⟨⟨⟨cell_inB9 hHeld.1.1.1 b91, cell_inB9 hHeld.1.1.2.1 b91, cell_inB9 hHeld.1.1.2.2 b91⟩, cell_inB9 hHeld.1.2.1 b91, cell_inB9 hHeld.1.2.2.1 b91, cell_inB9 hHeld.1.2.2.2 b91⟩, hHeld.2.trans (b91.mono hHeld.2.size)⟩)
      clear hK K
      (try simp only [Act.put, List.getElem_toArray, List.getElem_cons_succ, List.getElem_cons_zero, List.setIfInBounds_toArray, List.set_cons_zero, List.set_cons_succ])
      refine wpAnyH_take (i := 9) (v := ?_) rfl (by kernel_rfl) (by kernel_rfl) (by kernel_rfl) (fun _ _ _ h => h) (Or.inl ⟨by rfl, ?_⟩) (by assumption) ?_
      rotate_left
      · (intro w hSw; (try dsimp only at hSw); go_simp; (try with_reducible rfl))
      (try simp only [Act.put, List.getElem_toArray, List.getElem_cons_succ, List.getElem_cons_zero, List.setIfInBounds_toArray, List.set_cons_zero, List.set_cons_succ])
      refine wpAnyH_done (by kernel_rfl) ?_ _
      refine NoPanic.normal ?_
      have hbe := HB.out.trans (hHeld.2.mono HB.out.size)
      clear hHeld b91 h0 h1 h2 h0' h1' h2'
      go_wp2_with fail
      go_roundw
      case rel => exact ⟨i + 1, by omega, by go_num, hbe⟩
      case measure => simp [intOf]; omega
    · obtain rfl : i = d.length := by omega
      go_wp2_with fail
      go_ret
      exact ⟨rfl, hb⟩
end Go.Proofs.Ytmapiljbhjblhaa
