/- Texts of this claim, merged: DepG, DepH, ClC, ExT. Conditions: as stated. -/
import Derived.Test.YtpnapdhcdhcacaaXa7
import Derived.Test.YtpnapdhcdhcacaaXa2
import Derived.Deep.RegionHeld3
import Derived.Test.YtpnapdhcdhcacaaXa12
import Derived.Deep.RegionLaw
import Derived.Deep.CutBlock
import Derived.Deep.DeepCutAuto
import Derived.Laws.OwnMore
namespace Go.Proofs.Ytpnapdhcdhcacaa
open Go.RowKit

/-- The slice value v can be read: it holds these dependencies. -/
def ReadD (w : World) (v : Value) (ds : List (Int × Int)) : Prop :=
  ∃ (a : Option Addr) (cap : Nat), v = .slice a ds.length cap ∧ ∀ i, i < ds.length → ∃ b o, a = some ⟨b, o, none⟩ ∧ w.cell? ⟨b, o + i * 2, none⟩ = some (.int .i64 (ds.getD i (0, 0)).1) ∧ w.cell? ⟨b, o + i * 2 + 1, none⟩ = some (.int .i64 (ds.getD i (0, 0)).2)
end Go.Proofs.Ytpnapdhcdhcacaa
namespace Go.Proofs.Ytpnapdhcdhcacaa
open Go.RowKit

/-- The cells of a list of dependencies. -/
def depsV : List (Int × Int) → List Value
  | [] => []
  | d :: t => .int .i64 d.1 :: .int .i64 d.2 :: depsV t
theorem depsV_len : ∀ ds : List (Int × Int), (depsV ds).length = ds.length * 2
  | [] => rfl
  | d :: t => by simp only [depsV, List.length_cons, depsV_len t]; omega
theorem depsV_get : ∀ (ds : List (Int × Int)) (i : Nat), i < ds.length → (depsV ds)[i * 2]? = some (.int .i64 (ds.getD i (0, 0)).1) ∧ (depsV ds)[i * 2 + 1]? = some (.int .i64 (ds.getD i (0, 0)).2)
  | [], i, h => absurd h (Nat.not_lt_zero _)
  | d :: t, 0, _ => ⟨rfl, rfl⟩
  | d :: t, i + 1, h => by
    have ih := depsV_get t i (by simpa using h)
    rw [show (i + 1) * 2 = i * 2 + 1 + 1 by omega]
    simpa [depsV] using ih
theorem depsV_set : ∀ (ds : List (Int × Int)) (i : Nat) (a b : Int), ((depsV ds).set (i * 2) (.int .i64 a)).set (i * 2 + 1) (.int .i64 b) = depsV (ds.set i (a, b))
  | [], i, a, b => by simp [depsV]
  | d :: t, 0, a, b => rfl
  | d :: t, i + 1, a, b => by
    have ih := depsV_set t i a b
    rw [show (i + 1) * 2 = i * 2 + 1 + 1 by omega]
    simp only [depsV, List.set_cons_succ]
    rw [ih]
/-- A slice of dependencies that the call owns. -/
def OwnD (w : World) (B : Nat) (v : Value) (ds : List (Int × Int)) : Prop := w.ownsRow B 39 2 v ds.length (depsV ds)
theorem infoDp : (Try.prog.info? 39).map (fun i => (i.zero, i.size, i.bytes)) = some (some (.agg #[.int .i64 0, .int .i64 0]), 2, 16) := by kernel_rfl
theorem OwnD.read {w : World} {B : Nat} {v : Value} {ds : List (Int × Int)} (h : OwnD w B v ds) : ReadD w v ds := by
  rcases h.2 with ⟨rfl, h0⟩ | ⟨g, cap, cur, rfl, hB, hgg, rest⟩
  · exact ⟨none, 0, by rw [h0], fun i hi => by omega⟩
  · refine ⟨_, cap, rfl, fun i hi => ⟨g, 0, rfl, ?_, ?_⟩⟩
    · rw [Nat.zero_add, World.ownsRow.cellAt h (i * 2) (by omega), (depsV_get ds i hi).1]
    · rw [Nat.zero_add, World.ownsRow.cellAt h (i * 2 + 1) (by omega), (depsV_get ds i hi).2]
theorem ReadD.kept {w w' : World} {v : Value} {ds : List (Int × Int)} (h : ReadD w v ds) (hb : Below w.heap.size w w') : ReadD w' v ds := by
  obtain ⟨a, cap, hv, hc⟩ := h
  refine ⟨a, cap, hv, fun i hi => ?_⟩
  obtain ⟨b, o, ha, h0, h1⟩ := hc i hi
  exact ⟨b, o, ha, (hb.cell (World.block_lt_of_cell? w _ h0)).trans h0, (hb.cell (World.block_lt_of_cell? w _ h1)).trans h1⟩
theorem OwnD.lt {w : World} {B : Nat} {v : Value} {ds : List (Int × Int)} (h : OwnD w B v ds) : ∀ k, v.ownBlock = some k → B ≤ k ∧ k < w.heap.size := World.ownsRow.lt h
theorem OwnD.below {w w' : World} {B C : Nat} {v : Value} {ds : List (Int × Int)} (h : OwnD w B v ds) (hb : Below C w w') (hC : ∀ k, v.ownBlock = some k → k < C) : OwnD w' B v ds := by
  refine ⟨h.1, ?_⟩
  rcases h.2 with hn | ⟨g, cap, cur, rfl, hB, hgg, rest⟩
  · exact .inl hn
  · exact .inr ⟨g, cap, cur, rfl, hB, (hb.block g (hC g rfl)).trans hgg, rest⟩
theorem OwnD.store {w : World} {B g cap n : Nat} {ds : List (Int × Int)} (h : OwnD w B (.slice (some ⟨g, 0, none⟩) n cap) ds) (i : Nat) (a b : Int) : OwnD ((w.setCell ⟨g, i * 2, none⟩ (.int .i64 a)).setCell ⟨g, i * 2 + 1, none⟩ (.int .i64 b)) B (.slice (some ⟨g, 0, none⟩) n cap) (ds.set i (a, b)) := by
  have hn : n = ds.length := by rcases h.2 with ⟨h', _⟩ | ⟨g', cap', cur, h', _⟩ <;> simp at h'; omega
  subst hn
  have h1 := (World.ownsRow.stored (World.ownsRow.stored h (i * 2) (.int .i64 a)).1 (i * 2 + 1) (.int .i64 b)).1
  rw [depsV_set] at h1
  unfold OwnD
  rw [List.length_set]; exact h1
set_option maxHeartbeats 800000 in
theorem szDepS_any (v : Value) (ds : List (Int × Int)) (w : World) (hr : ReadD w v ds) (left : Int) (h0 : 0 ≤ left) (h1 : left ≤ 1048576) (hs : ds.length ≤ 9223372036854775807) :
    Calls Try.prog 7 #[v, .int .i64 left] w fun e w' => e = .returned (.int .i64 (szD left ds.length)) ∧ w = w' := by
  obtain ⟨a, cap, rfl, -⟩ := hr
  by_cases hle : (ds.length : Int) ≤ left
  · have HE : Hid (szD left ds.length = left - ds.length) := Lib.hid (by unfold szD; rw [if_pos hle])
    go_enter Try.func7, Try.ntmps7
    go_wp2_with fail
    go_ret
    exact ⟨ret_int HE.out.symm, rfl⟩
  · have HE : Hid (szD left ds.length = -1) := Lib.hid (by unfold szD; rw [if_neg hle])
    have hlt : left < (ds.length : Int) := by omega
    go_enter Try.func7, Try.ntmps7
    go_wp2_with fail
    go_ret
    exact ⟨ret_int HE.out.symm, rfl⟩
theorem depsV_zero : ∀ n : Nat, depsV (List.replicate n (0, 0)) = List.replicate (n * 2) (.int .i64 0)
  | 0 => rfl
  | n + 1 => by
    rw [show (n + 1) * 2 = n * 2 + 1 + 1 by omega, List.replicate_succ, List.replicate_succ, List.replicate_succ, depsV, depsV_zero n]
theorem made_deps (n : Nat) : (madeCells (Value.cells (.agg #[.int .i64 0, .int .i64 0])) (n * 2)).toList = depsV (List.replicate n (0, 0)) := by
  rw [depsV_zero]
  unfold madeCells
  apply List.ext_getElem
  · simp
  · intro i h1 h2
    simp only [Array.toList_map, List.getElem_map, List.getElem_replicate, Array.getElem_toList, Array.getElem_range]
    show (#[Value.int .i64 0, Value.int .i64 0])[i % 2]! = _
    rcases (show i % 2 = 0 ∨ i % 2 = 1 by omega) with h | h <;> rw [h] <;> rfl
theorem OwnD.full {w : World} {B : Nat} {v : Value} {n : Nat} (h : w.ownsRow B 39 2 v n (madeCells (Value.cells (.agg #[.int .i64 0, .int .i64 0])) (n * 2)).toList) : OwnD w B v (List.replicate n (0, 0)) := by
  unfold OwnD
  rw [List.length_replicate, ← made_deps]; exact h
/-- A slice of dependencies of the call's own. -/
def RetD (ds : List (Int × Int)) (w : World) (e : Ending) (w' : World) : Prop := ∃ v, e = .returned v ∧ OwnD w' w.heap.size v ds ∧ Below w.heap.size w w'
set_option maxRecDepth 20000 in
set_option maxHeartbeats 1600000 in
theorem toDepS_any (v : Value) (ds : List (Int × Int)) (w : World) (hr : ReadD w v ds) (hl : ds.length ≤ 1048576) :
    Calls Try.prog 9 #[v] w (RetD ds w) := by
  obtain ⟨i0, hi, hz0, hz1, hz2⟩ := info_parts infoDp
  have HI : Hid (_ ∧ _ ∧ _ ∧ _) := Lib.hid ⟨hi, hz0, hz1, hz2⟩
  clear hi hz0 hz1 hz2
  obtain ⟨a, cap, rfl, ha⟩ := hr
  have HA := Lib.hid ha
  clear ha
  go_enter Try.func9, Try.ntmps9
  go_wp2_with (at_make; refine wpList_make_full _ rfl _ _ 29 rfl w.heap.size 39 i0 (.agg #[.int .i64 0, .int .i64 0]) 2 Try.underlying29 HI.out.1 HI.out.2.1 HI.out.2.2.1 .i64 .i64 _ _ ds.length rfl rfl rfl rfl (by rw [HI.out.2.2.2]; omega) (by unfold maxLen; omega) (Nat.le_refl _) ?_; intro w0 hown0 hgrow0)
  have hown := OwnD.full hown0
  have hb0 := (Below.refl w.heap.size w).grown hgrow0 (Nat.le_refl _) (by simp)
  clear hown0 hgrow0
  go_loopw [4] (fun iv wr => ∃ (k : Nat) (l : List (Int × Int)), k ≤ ds.length ∧ iv = .int .i64 (k : Int) ∧ OwnD wr w.heap.size (.slice (some ⟨w.heap.size, 0, none⟩) ds.length ds.length) l ∧ Hid (l.length = ds.length ∧ l.take k = ds.take k) ∧ Below w.heap.size w wr) (fun iv _ => ds.length - (intOf iv).toNat)
  case atStart => exact ⟨0, _, by omega, rfl, hown, Lib.hid ⟨by simp, by simp⟩, hb0⟩
  case round =>
    clear hown hb0
    obtain ⟨k, l, hk, rfl, ho, HL, hb⟩ := hrel
    obtain ⟨w1, hw1⟩ : ∃ w', w' = wr := ⟨_, rfl⟩
    rw [← hw1] at ho hb ⊢
    clear hw1
    by_cases hlt : k < ds.length
    · obtain ⟨b, o, rfl, h0, h1⟩ := HA.out k hlt
      replace h0 := (hb.cell (World.block_lt_of_cell? w _ h0)).trans h0
      replace h1 := (hb.cell (World.block_lt_of_cell? w _ h1)).trans h1
      have z0 : (0 : Int) ≤ (k : Int) := by omega
      have z1 : (k : Int) < (ds.length : Int) := by omega
      obtain ⟨⟨x0, x1⟩, hx⟩ : ∃ z, z = ds.getD k (0, 0) := ⟨_, rfl⟩
      rw [← hx] at h0 h1
      simp only at h0 h1
      have HK := Lib.hid (toDep_any x0 x1 w1)
      have HX := Lib.hid hx
      have HO := Lib.hid ho
      clear hx ho
      go_wp2_with fail
      refine HK.out.mono ?_
      rintro e w2 ⟨rfl, b2⟩
      have ho2 := HO.out.below b2 (fun k hk => (HO.out.lt k hk).2)
      have hb2 := hb.trans (b2.mono hb.size)
      have hlk : k < l.length := by rw [HL.out.1]; exact hlt
      have g0 : w2.cell? ⟨w.heap.size, k * 2, none⟩ = some (.int .i64 (l.getD k (0, 0)).1) := by rw [World.ownsRow.cellAt (show w2.ownsRow w.heap.size _ 2 _ ds.length (depsV l) from by have := ho2; unfold OwnD at this; rw [HL.out.1] at this; exact this) (k * 2) (by omega), (depsV_get l k hlk).1]
      have g1 : w2.cell? ⟨w.heap.size, k * 2 + 1, none⟩ = some (.int .i64 (l.getD k (0, 0)).2) := by rw [World.ownsRow.cellAt (show w2.ownsRow w.heap.size _ 2 _ ds.length (depsV l) from by have := ho2; unfold OwnD at this; rw [HL.out.1] at this; exact this) (k * 2 + 1) (by omega), (depsV_get l k hlk).2]
      have f0 : w2.frozen? ⟨w.heap.size, k * 2, none⟩ = false := World.ownsRow.frozenAt (show w2.ownsRow w.heap.size _ 2 _ ds.length (depsV l) from by have := ho2; unfold OwnD at this; rw [HL.out.1] at this; exact this) _
      have f1 : w2.frozen? ⟨w.heap.size, k * 2 + 1, none⟩ = false := World.ownsRow.frozenAt (show w2.ownsRow w.heap.size _ 2 _ ds.length (depsV l) from by have := ho2; unfold OwnD at this; rw [HL.out.1] at this; exact this) _
      have HS := Lib.hid (ho2.store k x0 x1)
      have hbe := (hb2.setCell (p := ⟨w.heap.size, k * 2, none⟩) (Nat.le_refl _) (.int .i64 x0)).setCell (p := ⟨w.heap.size, k * 2 + 1, none⟩) (Nat.le_refl _) (.int .i64 x1)
      have HN : Hid ((l.set k (x0, x1)).length = ds.length ∧ (l.set k (x0, x1)).take (k + 1) = ds.take (k + 1)) := Lib.hid ⟨by rw [List.length_set]; exact HL.out.1, by
        rw [take_succ_getD ds (0, 0) k hlt, take_succ_getD (l.set k (x0, x1)) (0, 0) k (by rw [List.length_set]; exact hlk), List.take_set_of_le (Nat.le_refl _), HL.out.2, ← HX.out]
        congr 2
        rw [List.getD_eq_getElem?_getD, List.getElem?_set_self hlk]; rfl⟩
      clear ho2 b2
      go_wp2_with fail
      go_roundw
      case rel => exact ⟨k + 1, _, by omega, by go_num, HS.out, HN, hbe⟩
      case measure => simp [intOf]; omega
    · obtain rfl : k = ds.length := by omega
      have he : l = ds := by
        have h := HL.out.2
        rw [List.take_length, List.take_of_length_le (by rw [HL.out.1]; exact Nat.le_refl _)] at h
        exact h
      subst he
      go_wp2_with fail
      go_ret
      exact ⟨_, rfl, ho, hb⟩
/-- What a region of two lists' places holds on to. -/
theorem keep4 {w3 w' w'' : World} {p0 p1 p2 p3 : Addr} {v0 v1 v2 v3 : Value} (h : w'.cell? p0 = some v0 ∧ w'.cell? p1 = some v1 ∧ w'.cell? p2 = some v2 ∧ w'.cell? p3 = some v3 ∧ Below w3.heap.size w3 w') (b : Below w'.heap.size w' w'') :
    w''.cell? p0 = some v0 ∧ w''.cell? p1 = some v1 ∧ w''.cell? p2 = some v2 ∧ w''.cell? p3 = some v3 ∧ Below w3.heap.size w3 w'' :=
  ⟨(b.cell (World.block_lt_of_cell? _ _ h.1)).trans h.1, (b.cell (World.block_lt_of_cell? _ _ h.2.1)).trans h.2.1, (b.cell (World.block_lt_of_cell? _ _ h.2.2.1)).trans h.2.2.1, (b.cell (World.block_lt_of_cell? _ _ h.2.2.2.1)).trans h.2.2.2.1, h.2.2.2.2.trans (b.mono h.2.2.2.2.size)⟩
theorem below4 {w3 w' : World} {p0 p1 p2 p3 : Addr} {v0 v1 v2 v3 : Value} (h : w'.cell? p0 = some v0 ∧ w'.cell? p1 = some v1 ∧ w'.cell? p2 = some v2 ∧ w'.cell? p3 = some v3 ∧ Below w3.heap.size w3 w') : Below w3.heap.size w3 w' := h.2.2.2.2
theorem dep_box2 (w : World) (T T' : TypeId) (a b l r : Value) : (((w.alloc (.cells #[a, b] T)).alloc (.cells #[l, r] T')).cell? ⟨w.heap.size, 0, none⟩ = some a ∧ ((w.alloc (.cells #[a, b] T)).alloc (.cells #[l, r] T')).cell? ⟨w.heap.size, 1, none⟩ = some b) ∧ ((w.alloc (.cells #[a, b] T)).alloc (.cells #[l, r] T')).cell? ⟨w.heap.size + 1, 0, none⟩ = some l ∧ ((w.alloc (.cells #[a, b] T)).alloc (.cells #[l, r] T')).cell? ⟨w.heap.size + 1, 1, none⟩ = some r := boxTD (Below.refl _ _)
theorem eqDep_any (a b l r : Int) (w : World) :
    Calls Try.prog 36 #[.agg #[.int .i64 a, .int .i64 b], .agg #[.int .i64 l, .int .i64 r]] w fun e w' => e = .returned (.bool (decide (a = l) && decide (b = r))) ∧ Below w.heap.size w w' := by
  have hb1 := (Below.refl w.heap.size w).alloc (Nat.le_refl _) (.cells #[.int .i64 a, .int .i64 b] 39)
  have hb2 := hb1.alloc hb1.size (.cells #[.int .i64 l, .int .i64 r] 39)
  obtain ⟨⟨c0, c1⟩, d0, d1⟩ := dep_box2 w 39 39 (.int .i64 a) (.int .i64 b) (.int .i64 l) (.int .i64 r)
  by_cases h0 : a = l
  · subst h0
    by_cases h1 : b = r
    · subst h1
      go_enter Try.func36, Try.ntmps36
      go_wp2_with fail
      go_ret
      exact ⟨ret_b (by simp), hb2⟩
    · have hne : (b != r) = true := by rw [bne_iff_ne]; exact h1
      go_enter Try.func36, Try.ntmps36
      go_wp2_with fail
      go_ret
      exact ⟨ret_b (by rw [decide_eq_false h1]; simp), hb2⟩
  · have hne : (a != l) = true := by rw [bne_iff_ne]; exact h0
    go_enter Try.func36, Try.ntmps36
    go_wp2_with fail
    go_ret
    exact ⟨ret_b (by rw [decide_eq_false h0]; simp), hb2⟩
set_option maxRecDepth 20000 in
set_option maxHeartbeats 1600000 in
/-- A list against a copy of it. -/
theorem eqDepS_same (v v' : Value) (d : List (Int × Int)) (w : World) (hr : ReadD w v d) (hr' : ReadD w v' d) (hl : d.length ≤ 1048576) :
    Calls Try.prog 12 #[v, v'] w fun e' w' => e' = .returned (.bool true) ∧ Below w.heap.size w w' := by
  obtain ⟨p, cap, rfl, ha⟩ := hr
  obtain ⟨p', cap', rfl, ha'⟩ := hr'
  have HA := Lib.hid ha
  have HA' := Lib.hid ha'
  clear ha ha'
  go_enter Try.func12, Try.ntmps12
  go_wp2_with fail
  go_loopw [5] (fun iv wr => ∃ i : Nat, i ≤ d.length ∧ iv = .int .i64 (i : Int) ∧ Below w.heap.size w wr) (fun iv _ => d.length - (intOf iv).toNat)
  case atStart => exact ⟨0, by omega, rfl, Below.refl _ _⟩
  case round =>
    obtain ⟨i, hi, rfl, hb⟩ := hrel
    obtain ⟨w1, hw1⟩ : ∃ w', w' = wr := ⟨_, rfl⟩
    rw [← hw1] at hb ⊢
    clear hw1
    by_cases hlt : i < d.length
    · obtain ⟨b, o, rfl, h0, h1⟩ := HA.out i hlt
      obtain ⟨b', o', rfl, h0', h1'⟩ := HA'.out i hlt
      replace h0 := (hb.cell (World.block_lt_of_cell? w _ h0)).trans h0
      replace h1 := (hb.cell (World.block_lt_of_cell? w _ h1)).trans h1
      replace h0' := (hb.cell (World.block_lt_of_cell? w _ h0')).trans h0'
      replace h1' := (hb.cell (World.block_lt_of_cell? w _ h1')).trans h1'
      have z0 : (0 : Int) ≤ (i : Int) := by omega
      have z1 : (i : Int) < (d.length : Int) := by omega
      obtain ⟨⟨x0, x1⟩, hx⟩ : ∃ z, z = d.getD i (0, 0) := ⟨_, rfl⟩
      rw [← hx] at h0 h1 h0' h1'
      simp only at h0 h1 h0' h1'
      have HQ := Lib.hid (fun w' => eqDep_any x0 x1 x0 x1 w')
      rw [show (decide (x0 = x0) && decide (x1 = x1)) = true by simp] at HQ
      clear hx
      go_wp2_with fail
      go_region_held3 (fun w' => w'.cell? ⟨b, o + i * 2, none⟩ = some (.int .i64 x0) ∧ w'.cell? ⟨b, o + i * 2 + 1, none⟩ = some (.int .i64 x1) ∧ w'.cell? ⟨b', o' + i * 2, none⟩ = some (.int .i64 x0) ∧ w'.cell? ⟨b', o' + i * 2 + 1, none⟩ = some (.int .i64 x1) ∧ Below w.heap.size w w') (first | exact keep4 (by assumption) (by assumption) | exact ⟨h0, h1, h0', h1', hb.drew⟩) (first | (go_at_call 36; refine (HQ.out _).mono ?_; rintro e w91 ⟨rfl, b91⟩))
      have hbe := below4 (w' := w91) (by assumption)
      clear h0 h1 h0' h1' b91
      go_wp2_with fail
      go_roundw
      case rel => exact ⟨i + 1, by omega, by go_num, hbe⟩
      case measure => simp [intOf]; omega
    · obtain rfl : i = d.length := by omega
      go_wp2_with fail
      go_ret
      exact ⟨rfl, hb⟩
end Go.Proofs.Ytpnapdhcdhcacaa
namespace Go.Proofs.Ytpnapdhcdhcacaa
open Go.RowKit

theorem allD_snoc {p : Int × Int → Bool} {l : List (Int × Int)} {i : Nat} (hi : i < l.length) (h : (l.take i).all p = true) (hp : p (l.getD i (0, 0)) = true) : (l.take (i + 1)).all p = true := by
  rw [take_succ_getD l (0, 0) i hi, List.all_append, h]
  simp only [List.all_cons, List.all_nil, Bool.and_true, Bool.true_and]
  exact hp
theorem allD_not {p : Int × Int → Bool} {l : List (Int × Int)} {i : Nat} (hi : i < l.length) (hp : p (l.getD i (0, 0)) = false) : l.all p = false := by
  rw [Bool.eq_false_iff]
  intro h
  rw [List.all_eq_true] at h
  rw [h _ (memD hi)] at hp
  cases hp
theorem readD_cells {w : World} {a : Option Addr} {n cap : Nat} {l : List (Int × Int)} (h : ReadD w (.slice a n cap) l) {i : Nat} (hi : i < l.length) : ∃ b o, a = some ⟨b, o, none⟩ ∧ w.cell? ⟨b, o + i * 2, none⟩ = some (.int .i64 (l.getD i (0, 0)).1) ∧ w.cell? ⟨b, o + i * 2 + 1, none⟩ = some (.int .i64 (l.getD i (0, 0)).2) := by
  obtain ⟨a', cap', hv, hc⟩ := h
  cases hv
  exact hc i hi
theorem keep_in {w w' : World} {p : Addr} {v : Value} (h : w.cell? p = some v) (b : Below w.heap.size w w') : w'.cell? p = some v := (b.cell (World.block_lt_of_cell? w _ h)).trans h
theorem or_w : ∀ (x : Fin 32) (R : Fin 5), bits .or .i64 ((x.val : Nat) : Int) (wrap64 (2 ^ R.val)) = ((orN x.val R.val : Nat) : Int) := by decide +kernel
section
set_option maxRecDepth 20000
set_option maxHeartbeats 3200000
theorem areDeps10_any (v : Value) (n : Int) (l : List (Int × Int)) (w : World) (hr : ReadD w v l) (hl : l.length ≤ 1048576) :
    Calls Try.prog 29 #[.int .i64 n, v] w fun e w' => e = .returned (.bool (arD n l)) ∧ Below w.heap.size w w' := by
  have HR := Lib.hid (fun w' (hb : Below w.heap.size w w') => hr.kept hb)
  have HIN := Lib.hid (fun w' => in_any n 1 5 w')
  have HID := Lib.hid (fun a b w' => isDep_any n a b w')
  obtain ⟨a, cap, rfl, -⟩ := hr
  go_enter Try.func29, Try.ntmps29
  go_wp2_with fail
  go_loopw [5] (fun iv wr => ∃ i : Nat, i ≤ l.length ∧ iv = .int .i64 (i : Int) ∧ Hid ((l.take i).all (fun d => depB n d.1 d.2) = true) ∧ Hid (Below w.heap.size w wr)) (fun iv _ => l.length - (intOf iv).toNat)
  case atStart => exact ⟨0, by omega, rfl, Lib.hid rfl, Lib.hid (Below.refl _ _)⟩
  case round =>
    obtain ⟨i, hi, rfl, HA, HB⟩ := hrel
    obtain ⟨w3, hw⟩ : ∃ w', w' = wr := ⟨_, rfl⟩
    rw [← hw] at HB ⊢
    clear hw
    have z0 : (0 : Int) ≤ (i : Int) := by omega
    by_cases hlt : i < l.length
    · obtain ⟨b, o, rfl, h0, h1⟩ := readD_cells (HR.out w3 HB.out) hlt
      have z1 : (i : Int) < (l.length : Int) := by omega
      have HOK := Lib.hid (fun h => allD_snoc (p := fun d => depB n d.1 d.2) hlt HA.out h)
      have HNO := Lib.hid (fun h => allD_not (p := fun d => depB n d.1 d.2) hlt h)
      obtain ⟨⟨x0, x1⟩, hx⟩ : ∃ z, z = l.getD i (0, 0) := ⟨_, rfl⟩
      rw [← hx] at h0 h1 HOK HNO
      simp only at h0 h1
      have HQ := Lib.hid (HID.out x0 x1 w3)
      clear hx HA
      cases hd : depB n x0 x1 with
      | true =>
        rw [hd] at HQ
        have HX := Lib.hid (HOK.out hd)
        clear hd
        go_wp2_with fail
        refine HQ.out.mono ?_
        rintro e w4 ⟨rfl, b4⟩
        have HB4 := Lib.hid (HB.out.trans (b4.mono HB.out.size))
        clear b4 h0 h1
        go_wp2_with fail
        go_roundw
        case rel => exact ⟨i + 1, by omega, by go_num, HX, HB4⟩
        case measure => simp [intOf]; omega
      | false =>
        rw [hd] at HQ
        have HX := Lib.hid (HNO.out hd)
        clear hd
        go_wp2_with fail
        refine HQ.out.mono ?_
        rintro e w4 ⟨rfl, b4⟩
        have HB4 := Lib.hid (HB.out.trans (b4.mono HB.out.size))
        clear b4 h0 h1
        go_wp2_with fail
        go_ret
        exact ⟨ret_b (by unfold arD; rw [HX.out]; rfl), HB4.out⟩
    · obtain rfl : i = l.length := by omega
      have HAA : Hid (l.all (fun d => depB n d.1 d.2) = true) := Lib.hid (by have := HA.out; rwa [List.take_length] at this)
      have HQ := Lib.hid (HIN.out w3)
      clear HA
      by_cases hn : 1 ≤ n ∧ n ≤ 5
      · rw [decide_eq_true hn] at HQ
        by_cases h20 : l.length ≤ 20
        · have g20 : (l.length : Int) ≤ 20 := by omega
          have HE : Hid (arD n l = true) := Lib.hid (by unfold arD; rw [HAA.out, decide_eq_true hn, decide_eq_true h20]; rfl)
          clear hn
          go_wp2_with fail
          refine HQ.out.mono ?_
          rintro e w' ⟨rfl, rfl⟩
          go_wp2_with fail
          go_ret
          exact ⟨ret_b HE.out, HB.out⟩
        · have g20 : ¬ ((l.length : Int) ≤ 20) := by omega
          have HE : Hid (arD n l = false) := Lib.hid (by unfold arD; rw [HAA.out, decide_eq_true hn, decide_eq_false h20]; rfl)
          clear hn
          go_wp2_with fail
          refine HQ.out.mono ?_
          rintro e w' ⟨rfl, rfl⟩
          go_wp2_with fail
          go_ret
          exact ⟨ret_b (by rw [HE.out, decide_eq_false (by omega)]), HB.out⟩
      · rw [decide_eq_false hn] at HQ
        have HE : Hid (arD n l = false) := Lib.hid (by unfold arD; rw [HAA.out, decide_eq_false hn]; rfl)
        clear hn
        go_wp2_with fail
        refine HQ.out.mono ?_
        rintro e w' ⟨rfl, rfl⟩
        go_wp2_with fail
        go_ret
        exact ⟨ret_b HE.out, HB.out⟩
theorem close10_any (C : Nat) (hC : C ≤ 5) (v : Value) (l : List (Int × Int)) (hd : DepsN C l) (x : Nat) (hx : x < 32) (w : World) (hr : ReadD w v l) (hl : l.length ≤ 1048576) :
    Calls Try.prog 41 #[v, .int .i64 (x : Int)] w fun e w' => e = .returned (.int .i64 (clo l x : Int)) ∧ Below w.heap.size w w' := by
  have HR := Lib.hid (fun w' (hb : Below w.heap.size w w') => hr.kept hb)
  obtain ⟨a, cap, rfl, -⟩ := hr
  have HD := Lib.hid hd
  have HK := Lib.hid (fun k => (cloTo_facts hC hd hx k).1)
  have HRD := Lib.hid (fun (y : Nat) (hy : y < 32) i hi => (rdTo_facts hC hd hy i hi).1)
  clear hd hx
  go_enter Try.func41, Try.ntmps41
  go_wp2_with fail
  go_loopw [1, 5] (fun xv kv wr => ∃ k : Nat, k ≤ 6 ∧ kv = .int .i64 (k : Int) ∧ xv = .int .i64 (cloTo l x k : Int) ∧ Hid (Below w.heap.size w wr)) (fun _ kv _ => 6 - (intOf kv).toNat)
  case atStart => exact ⟨0, by omega, rfl, rfl, Lib.hid (Below.refl _ _)⟩
  case round =>
    obtain ⟨k, hk, rfl, rfl, HB⟩ := hrel
    obtain ⟨w2, hw⟩ : ∃ w', w' = wr := ⟨_, rfl⟩
    rw [← hw] at HB ⊢
    clear hw
    have z0 : (0 : Int) ≤ (k : Int) := by omega
    have hkx := HK.out k
    have HN : Hid (cloTo l x (k + 1) = rdTo l (cloTo l x k) l.length) := Lib.hid rfl
    by_cases hlt : k < 6
    · have z1 : (k : Int) ≤ 5 := by omega
      obtain ⟨y, hy⟩ : ∃ y, y = cloTo l x k := ⟨_, rfl⟩
      rw [← hy] at hkx HN ⊢
      clear hy
      go_wp2_with fail
      go_loopw [1, 6] (fun xv iv wr => ∃ i : Nat, i ≤ l.length ∧ iv = .int .i64 (i : Int) ∧ xv = .int .i64 (rdTo l y i : Int) ∧ Hid (Below w.heap.size w wr)) (fun _ iv _ => l.length - (intOf iv).toNat)
      case atStart => exact ⟨0, by omega, rfl, rfl, HB⟩
      case round =>
        clear HB
        obtain ⟨i, hi, rfl, rfl, HB⟩ := hrel
        obtain ⟨w3, hw⟩ : ∃ w', w' = wr := ⟨_, rfl⟩
        rw [← hw] at HB ⊢
        clear hw
        have z2 : (0 : Int) ≤ (i : Int) := by omega
        by_cases hlt2 : i < l.length
        · obtain ⟨b, o, rfl, h0, h1⟩ := readD_cells (HR.out w3 HB.out) hlt2
          have z3 : (i : Int) < (l.length : Int) := by omega
          obtain ⟨L, R, e, hL, hR⟩ := HD.out _ (memD hlt2)
          have hX32 := HRD.out y hkx i hi
          have hS : rdTo l y (i + 1) = stN (rdTo l y i) (l.getD i (0, 0)) := rfl
          obtain ⟨X, hX⟩ : ∃ X, X = rdTo l y i := ⟨_, rfl⟩
          rw [← hX] at hX32 hS ⊢
          rw [e] at h0 h1 hS
          simp only at h0 h1
          have HSX : Hid (rdTo l y (i + 1) = if subN L X = true then orN X R else X) := Lib.hid (by rw [hS]; rfl)
          have h32 := two5 hC
          have hand := sub_and ⟨L, by omega⟩ ⟨X, hX32⟩
          simp only at hand
          have HOW : Hid (bits .or .i64 (X : Int) (wrap64 (2 ^ R)) = (orN X R : Int)) := Lib.hid (or_w ⟨X, hX32⟩ ⟨R, by omega⟩)
          have zR : (0 : Int) ≤ (R : Int) := by omega
          have hR5 : R < 5 := by omega
          clear e hX hS
          cases hs : subN L X with
          | true =>
            rw [hs] at hand HSX
            clear hs
            go_upto_region 7 with fail
            refine wp_region_noPanic ?_
            refine wp_region_held_drew (S := (fun w' => w'.cell? ⟨b, o + i * 2, none⟩ = some (.int .i64 (L : Int)) ∧ Below w3.heap.size w3 w')) (by kernel_rfl) ?_ (fun hHeld => ?_)
            · ((try dsimp only); exact ⟨h0, (Below.refl _ _).drew⟩)
            refine wpAnyH_take (i := 0) (v := ?_) rfl (by kernel_rfl) (by kernel_rfl) (by kernel_rfl) (fun _ _ _ h => h) (Or.inl ⟨by rfl, ?_⟩) (by assumption) ?_
            rotate_left
            · (intro w hSw; (try dsimp only at hSw); go_simp; (try with_reducible rfl))
            (try simp only [Act.put, List.getElem_toArray, List.getElem_cons_zero, List.setIfInBounds_toArray, List.set_cons_zero, List.set_cons_succ])
            refine wpAnyH_take (i := 1) (v := ?_) rfl (by kernel_rfl) (by kernel_rfl) (by kernel_rfl) (fun _ _ _ h => h) (Or.inl ⟨by rfl, ?_⟩) (by assumption) ?_
            rotate_left
            · (intro w hSw; (try dsimp only at hSw); go_simp; (try with_reducible rfl))
            (try simp only [Act.put, List.getElem_toArray, List.getElem_cons_succ, List.getElem_cons_zero, List.setIfInBounds_toArray, List.set_cons_zero, List.set_cons_succ])
            refine wpAnyH_take (i := 2) (v := ?_) rfl (by kernel_rfl) (by kernel_rfl) (by kernel_rfl) (fun _ _ _ h => h) (Or.inl ⟨by rfl, ?_⟩) (by assumption) ?_
            rotate_left
            · (intro w hSw; (try dsimp only at hSw); go_simp; (try with_reducible rfl))
            (try simp only [Act.put, List.getElem_toArray, List.getElem_cons_succ, List.getElem_cons_zero, List.setIfInBounds_toArray, List.set_cons_zero, List.set_cons_succ])
            refine wpAnyH_take (i := 3) (v := ?_) rfl (by kernel_rfl) (by kernel_rfl) (by kernel_rfl) (fun _ _ _ h => h) (Or.inl ⟨by rfl, ?_⟩) (by assumption) ?_
            rotate_left
            · (intro w hSw; (try dsimp only at hSw); go_simp; (try with_reducible rfl))
            (try simp only [Act.put, List.getElem_toArray, List.getElem_cons_succ, List.getElem_cons_zero, List.setIfInBounds_toArray, List.set_cons_zero, List.set_cons_succ])
            refine wpAnyH_take (i := 4) (v := ?_) rfl (by kernel_rfl) (by kernel_rfl) (by kernel_rfl) (fun _ _ _ h => h) (Or.inl ⟨by rfl, ?_⟩) (by assumption) ?_
            rotate_left
            · (intro w hSw; (try dsimp only at hSw); go_simp; (try with_reducible rfl))
            (try simp only [Act.put, List.getElem_toArray, List.getElem_cons_succ, List.getElem_cons_zero, List.setIfInBounds_toArray, List.set_cons_zero, List.set_cons_succ])
            refine wpAnyH_take (i := 5) (v := ?_) rfl (by kernel_rfl) (by kernel_rfl) (by kernel_rfl) (fun _ _ _ h => h) (Or.inl ⟨by rfl, ?_⟩) (by assumption) ?_
            rotate_left
            · (intro w hSw; (try dsimp only at hSw); go_simp; (try with_reducible rfl))
            (try simp only [Act.put, List.getElem_toArray, List.getElem_cons_succ, List.getElem_cons_zero, List.setIfInBounds_toArray, List.set_cons_zero, List.set_cons_succ])
            refine wpAnyH_take (i := 6) (v := ?_) rfl (by kernel_rfl) (by kernel_rfl) (by kernel_rfl) (fun _ _ _ h => h) (Or.inl ⟨by rfl, ?_⟩) (by assumption) ?_
            rotate_left
            · (intro w hSw; (try dsimp only at hSw); go_simp; (try with_reducible rfl))
            (try simp only [Act.put, List.getElem_toArray, List.getElem_cons_succ, List.getElem_cons_zero, List.setIfInBounds_toArray, List.set_cons_zero, List.set_cons_succ])
            refine wpAnyH_take (i := 7) (v := ?_) rfl (by kernel_rfl) (by kernel_rfl) (by kernel_rfl) (fun _ _ _ h => h) (Or.inl ⟨by rfl, ?_⟩) (by assumption) ?_
            rotate_left
            · (intro w hSw; (try dsimp only at hSw); go_simp; (try with_reducible rfl))
            (try simp only [Act.put, List.getElem_toArray, List.getElem_cons_succ, List.getElem_cons_zero, List.setIfInBounds_toArray, List.set_cons_zero, List.set_cons_succ])
            refine wpAnyH_take (i := 8) (v := ?_) rfl (by kernel_rfl) (by kernel_rfl) (by kernel_rfl) (fun _ _ _ h => h) (Or.inl ⟨by rfl, ?_⟩) (by assumption) ?_
            rotate_left
            · (intro w hSw; (try dsimp only at hSw); go_simp; (try with_reducible rfl))
            (try simp only [Act.put, List.getElem_toArray, List.getElem_cons_succ, List.getElem_cons_zero, List.setIfInBounds_toArray, List.set_cons_zero, List.set_cons_succ])
            refine wpAnyH_take (i := 9) (v := ?_) rfl (by kernel_rfl) (by kernel_rfl) (by kernel_rfl) (fun _ _ _ h => h) (Or.inl ⟨by rfl, ?_⟩) (by assumption) ?_
            rotate_left
            · (intro w hSw; (try dsimp only at hSw); go_simp; (try with_reducible rfl))
            (try simp only [Act.put, List.getElem_toArray, List.getElem_cons_succ, List.getElem_cons_zero, List.setIfInBounds_toArray, List.set_cons_zero, List.set_cons_succ])
            refine wpAnyH_take (i := 10) (v := ?_) rfl (by kernel_rfl) (by kernel_rfl) (by kernel_rfl) (fun _ _ _ h => h) (Or.inl ⟨by rfl, ?_⟩) (by assumption) ?_
            rotate_left
            · (intro w hSw; (try dsimp only at hSw); go_simp; (try with_reducible rfl))
            (try simp only [Act.put, List.getElem_toArray, List.getElem_cons_succ, List.getElem_cons_zero, List.setIfInBounds_toArray, List.set_cons_zero, List.set_cons_succ])
            refine wpAnyH_take (i := 11) (v := ?_) rfl (by kernel_rfl) (by kernel_rfl) (by kernel_rfl) (fun _ _ _ h => h) (Or.inl ⟨by rfl, ?_⟩) (by assumption) ?_
            rotate_left
            · (intro w hSw; (try dsimp only at hSw); go_simp; (try with_reducible rfl))
            (try simp only [Act.put, List.getElem_toArray, List.getElem_cons_succ, List.getElem_cons_zero, List.setIfInBounds_toArray, List.set_cons_zero, List.set_cons_succ])
            refine wpAnyH_take (i := 12) (v := ?_) rfl (by kernel_rfl) (by kernel_rfl) (by kernel_rfl) (fun _ _ _ h => h) (Or.inl ⟨by rfl, ?_⟩) (by assumption) ?_
            rotate_left
            · (intro w hSw; (try dsimp only at hSw); go_simp; (try with_reducible rfl))
            (try simp only [Act.put, List.getElem_toArray, List.getElem_cons_succ, List.getElem_cons_zero, List.setIfInBounds_toArray, List.set_cons_zero, List.set_cons_succ])
            refine wpAnyH_done (by kernel_rfl) ?_ _
            refine NoPanic.normal ?_
            replace h1 := keep_in h1 hHeld.2
            have HB4 := Lib.hid (HB.out.trans (hHeld.2.mono HB.out.size))
            clear hHeld h0
            go_wp2_with fail
            go_roundw
            case rel => exact ⟨i + 1, by omega, by go_num, by rw [HOW.out, HSX.out, if_pos rfl], HB4⟩
            case measure => simp [intOf]; omega
          | false =>
            rw [hs] at hand HSX
            clear hs
            go_upto_region 7 with fail
            refine wp_region_noPanic ?_
            refine wp_region_held_drew (S := (fun w' => w'.cell? ⟨b, o + i * 2, none⟩ = some (.int .i64 (L : Int)) ∧ Below w3.heap.size w3 w')) (by kernel_rfl) ?_ (fun hHeld => ?_)
            · ((try dsimp only); exact ⟨h0, (Below.refl _ _).drew⟩)
            refine wpAnyH_take (i := 0) (v := ?_) rfl (by kernel_rfl) (by kernel_rfl) (by kernel_rfl) (fun _ _ _ h => h) (Or.inl ⟨by rfl, ?_⟩) (by assumption) ?_
            rotate_left
            · (intro w hSw; (try dsimp only at hSw); go_simp; (try with_reducible rfl))
            (try simp only [Act.put, List.getElem_toArray, List.getElem_cons_zero, List.setIfInBounds_toArray, List.set_cons_zero, List.set_cons_succ])
            refine wpAnyH_take (i := 1) (v := ?_) rfl (by kernel_rfl) (by kernel_rfl) (by kernel_rfl) (fun _ _ _ h => h) (Or.inl ⟨by rfl, ?_⟩) (by assumption) ?_
            rotate_left
            · (intro w hSw; (try dsimp only at hSw); go_simp; (try with_reducible rfl))
            (try simp only [Act.put, List.getElem_toArray, List.getElem_cons_succ, List.getElem_cons_zero, List.setIfInBounds_toArray, List.set_cons_zero, List.set_cons_succ])
            refine wpAnyH_take (i := 2) (v := ?_) rfl (by kernel_rfl) (by kernel_rfl) (by kernel_rfl) (fun _ _ _ h => h) (Or.inl ⟨by rfl, ?_⟩) (by assumption) ?_
            rotate_left
            · (intro w hSw; (try dsimp only at hSw); go_simp; (try with_reducible rfl))
            (try simp only [Act.put, List.getElem_toArray, List.getElem_cons_succ, List.getElem_cons_zero, List.setIfInBounds_toArray, List.set_cons_zero, List.set_cons_succ])
            refine wpAnyH_take (i := 3) (v := ?_) rfl (by kernel_rfl) (by kernel_rfl) (by kernel_rfl) (fun _ _ _ h => h) (Or.inl ⟨by rfl, ?_⟩) (by assumption) ?_
            rotate_left
            · (intro w hSw; (try dsimp only at hSw); go_simp; (try with_reducible rfl))
            (try simp only [Act.put, List.getElem_toArray, List.getElem_cons_succ, List.getElem_cons_zero, List.setIfInBounds_toArray, List.set_cons_zero, List.set_cons_succ])
            refine wpAnyH_take (i := 4) (v := ?_) rfl (by kernel_rfl) (by kernel_rfl) (by kernel_rfl) (fun _ _ _ h => h) (Or.inl ⟨by rfl, ?_⟩) (by assumption) ?_
            rotate_left
            · (intro w hSw; (try dsimp only at hSw); go_simp; (try with_reducible rfl))
            (try simp only [Act.put, List.getElem_toArray, List.getElem_cons_succ, List.getElem_cons_zero, List.setIfInBounds_toArray, List.set_cons_zero, List.set_cons_succ])
            refine wpAnyH_take (i := 5) (v := ?_) rfl (by kernel_rfl) (by kernel_rfl) (by kernel_rfl) (fun _ _ _ h => h) (Or.inl ⟨by rfl, ?_⟩) (by assumption) ?_
            rotate_left
            · (intro w hSw; (try dsimp only at hSw); go_simp; (try with_reducible rfl))
            (try simp only [Act.put, List.getElem_toArray, List.getElem_cons_succ, List.getElem_cons_zero, List.setIfInBounds_toArray, List.set_cons_zero, List.set_cons_succ])
            refine wpAnyH_take (i := 6) (v := ?_) rfl (by kernel_rfl) (by kernel_rfl) (by kernel_rfl) (fun _ _ _ h => h) (Or.inl ⟨by rfl, ?_⟩) (by assumption) ?_
            rotate_left
            · (intro w hSw; (try dsimp only at hSw); go_simp; (try with_reducible rfl))
            (try simp only [Act.put, List.getElem_toArray, List.getElem_cons_succ, List.getElem_cons_zero, List.setIfInBounds_toArray, List.set_cons_zero, List.set_cons_succ])
            refine wpAnyH_take (i := 7) (v := ?_) rfl (by kernel_rfl) (by kernel_rfl) (by kernel_rfl) (fun _ _ _ h => h) (Or.inl ⟨by rfl, ?_⟩) (by assumption) ?_
            rotate_left
            · (intro w hSw; (try dsimp only at hSw); go_simp; (try with_reducible rfl))
            (try simp only [Act.put, List.getElem_toArray, List.getElem_cons_succ, List.getElem_cons_zero, List.setIfInBounds_toArray, List.set_cons_zero, List.set_cons_succ])
            refine wpAnyH_take (i := 8) (v := ?_) rfl (by kernel_rfl) (by kernel_rfl) (by kernel_rfl) (fun _ _ _ h => h) (Or.inl ⟨by rfl, ?_⟩) (by assumption) ?_
            rotate_left
            · (intro w hSw; (try dsimp only at hSw); go_simp; (try with_reducible rfl))
            (try simp only [Act.put, List.getElem_toArray, List.getElem_cons_succ, List.getElem_cons_zero, List.setIfInBounds_toArray, List.set_cons_zero, List.set_cons_succ])
            refine wpAnyH_take (i := 9) (v := ?_) rfl (by kernel_rfl) (by kernel_rfl) (by kernel_rfl) (fun _ _ _ h => h) (Or.inl ⟨by rfl, ?_⟩) (by assumption) ?_
            rotate_left
            · (intro w hSw; (try dsimp only at hSw); go_simp; (try with_reducible rfl))
            (try simp only [Act.put, List.getElem_toArray, List.getElem_cons_succ, List.getElem_cons_zero, List.setIfInBounds_toArray, List.set_cons_zero, List.set_cons_succ])
            refine wpAnyH_take (i := 10) (v := ?_) rfl (by kernel_rfl) (by kernel_rfl) (by kernel_rfl) (fun _ _ _ h => h) (Or.inl ⟨by rfl, ?_⟩) (by assumption) ?_
            rotate_left
            · (intro w hSw; (try dsimp only at hSw); go_simp; (try with_reducible rfl))
            (try simp only [Act.put, List.getElem_toArray, List.getElem_cons_succ, List.getElem_cons_zero, List.setIfInBounds_toArray, List.set_cons_zero, List.set_cons_succ])
            refine wpAnyH_take (i := 11) (v := ?_) rfl (by kernel_rfl) (by kernel_rfl) (by kernel_rfl) (fun _ _ _ h => h) (Or.inl ⟨by rfl, ?_⟩) (by assumption) ?_
            rotate_left
            · (intro w hSw; (try dsimp only at hSw); go_simp; (try with_reducible rfl))
            (try simp only [Act.put, List.getElem_toArray, List.getElem_cons_succ, List.getElem_cons_zero, List.setIfInBounds_toArray, List.set_cons_zero, List.set_cons_succ])
            refine wpAnyH_take (i := 12) (v := ?_) rfl (by kernel_rfl) (by kernel_rfl) (by kernel_rfl) (fun _ _ _ h => h) (Or.inl ⟨by rfl, ?_⟩) (by assumption) ?_
            rotate_left
            · (intro w hSw; (try dsimp only at hSw); go_simp; (try with_reducible rfl))
            (try simp only [Act.put, List.getElem_toArray, List.getElem_cons_succ, List.getElem_cons_zero, List.setIfInBounds_toArray, List.set_cons_zero, List.set_cons_succ])
            refine wpAnyH_done (by kernel_rfl) ?_ _
            refine NoPanic.normal ?_
            have HB4 := Lib.hid (HB.out.trans (hHeld.2.mono HB.out.size))
            clear hHeld h0 h1
            go_wp2_with fail
            go_roundw
            case rel => exact ⟨i + 1, by omega, by go_num, by rw [HSX.out]; rfl, HB4⟩
            case measure => simp [intOf]; omega
        · obtain rfl : i = l.length := by omega
          go_wp2_with fail
          go_roundw
          case rel => exact ⟨k + 1, by omega, by go_num, by rw [HN.out], HB⟩
          case measure => simp [intOf]; omega
    · obtain rfl : k = 6 := by omega
      go_wp2_with fail
      go_ret
      exact ⟨rfl, HB.out⟩
end
end Go.Proofs.Ytpnapdhcdhcacaa
namespace Go.Proofs.Ytpnapdhcdhcacaa
open Go.RowKit

/-- A table in memory of the call's own, and a bool. -/
def RetTB (rc : Int) (d : List (List Int)) (ok : Bool) (w : World) (e : Ending) (w' : World) : Prop :=
  ∃ v, e = .returned (.tuple #[.agg #[.int .i64 rc, v], .bool ok]) ∧ OwnSS w' w.heap.size w'.heap.size v d ∧ Below w.heap.size w w'
def BxT (w : World) (b : Nat) (c : Int) (u : Value) : Prop := w.heap[b]? = some (.cells #[.int .i64 c, u] 26 (0, 0))
theorem BxT.c0 {w : World} {b : Nat} {c : Int} {u : Value} (h : BxT w b c u) : w.cell? ⟨b, 0, none⟩ = some (.int .i64 c) := by rw [cell_of_row w b 0 _ _ _ h]; rfl
theorem BxT.c1 {w : World} {b : Nat} {c : Int} {u : Value} (h : BxT w b c u) : w.cell? ⟨b, 1, none⟩ = some u := by rw [cell_of_row w b 1 _ _ _ h]; rfl
theorem BxT.f0 {w : World} {b : Nat} {c : Int} {u : Value} (h : BxT w b c u) : w.frozen? ⟨b, 0, none⟩ = false := frozen_of_row w b 0 _ _ h
theorem BxT.f1 {w : World} {b : Nat} {c : Int} {u : Value} (h : BxT w b c u) : w.frozen? ⟨b, 1, none⟩ = false := frozen_of_row w b 1 _ _ h
theorem BxT.lt {w : World} {b : Nat} {c : Int} {u : Value} (h : BxT w b c u) : b < w.heap.size := (Array.getElem?_eq_some_iff.1 h).1
theorem BxT.keep {w w' : World} {b : Nat} {c : Int} {u : Value} (h : BxT w b c u) (hb : Below w.heap.size w w') : BxT w' b c u := (hb.block b h.lt).trans h
theorem BxT.grown {w w' : World} {b : Nat} {c : Int} {u : Value} {row : Option Nat} (h : BxT w b c u) (hg : w.grownBy w' row) (hne : row ≠ some b) : BxT w' b c u := (hg.block b h.lt (Ne.symm hne)).trans h
theorem BxT.far {w : World} {b c k : Nat} {x : Int} {u v : Value} (h : BxT w b x u) (hc : b ≠ c) : BxT (w.setCell ⟨c, k, none⟩ v) b x u := (Below.heap_setCell w ⟨c, k, none⟩ v b hc).trans h
theorem BxT.set1 {w : World} {b : Nat} {c : Int} {u v : Value} (h : BxT w b c u) : BxT (w.setCell ⟨b, 1, none⟩ v) b c v := by
  unfold BxT at *
  simp only [World.setCell, Array.getElem?_modify]
  rw [if_pos trivial, h]
  rfl
theorem BxT.put {w : World} {b : Nat} {c c' : Int} {u v : Value} (h : BxT w b c u) : BxT ((w.setCell ⟨b, 0, none⟩ (.int .i64 c')).setCell ⟨b, 1, none⟩ v) b c' v := by
  have h1 : BxT (w.setCell ⟨b, 0, none⟩ (.int .i64 c')) b c' u := by
    unfold BxT at *
    simp only [World.setCell, Array.getElem?_modify]
    rw [if_pos trivial, h]
    rfl
  exact h1.set1
theorem bxt_new (w : World) (c : Int) (u : Value) : BxT (w.alloc (.cells #[.int .i64 c, u] 26)) w.heap.size c u := heap_alloc_new w _
theorem rowA_zero (X : Nat) : ∀ C, rowA X 0 C = List.replicate C 0
  | 0 => rfl
  | C + 1 => by
    unfold rowA
    rw [rowA_zero X C, List.replicate_succ']
    congr 1
    split <;> rfl
theorem make_zeros (C : Nat) (hC : C ≤ 1000) (w : World) : (Instr.makeSlice 47 (.int .i64 (C : Int)) (.int .i64 (C : Int))).run Try.prog w = .ok (.slice (some ⟨w.heap.size, 0, none⟩) C C) (w.alloc (.cells (madeCells (Value.cells (.int .i64 0)) (C * 1)) 3)) := by
  obtain ⟨i0, hi, hz0, hz1, hz2⟩ := info_parts info3j
  have h := run_make (P := Try.prog) w 47 3 i0 (.int .i64 0) Try.underlying47 hi hz0 .i64 .i64 (C : Int) (C : Int) (by omega) (Int.le_refl _) (by rw [hz2]; omega) (by omega)
  rw [hz1] at h
  simp only [Int.toNat_natCast] at h
  exact h
theorem own_zeros (w : World) (B C : Nat) (hB : B ≤ w.heap.size) (hC : C ≤ 1000) : OwnI (w.alloc (.cells (madeCells (Value.cells (.int .i64 0)) (C * 1)) 3)) B (.slice (some ⟨w.heap.size, 0, none⟩) C C) (List.replicate C 0) :=
  OwnI.full (World.ownsRow_lit w _ C hB (by unfold maxLen; omega) (size_madeCells _ _))
/-- Two rows of a table, each in a block of its own. -/
theorem own_two {w : World} {B C a : Nat} {u0 u1 : Value} {l0 l1 : List Int} (h0 : OwnI w B u0 l0) (h1 : OwnI w B u1 l1) (hne : ∀ g, u0.ownBlock = some g → u1.ownBlock ≠ some g) (hB : B ≤ w.heap.size)
    (hC : C = (w.alloc (.cells #[u0, u1] 47)).heap.size) (ha : a = w.heap.size) : OwnSS (w.alloc (.cells #[u0, u1] 47)) B C (.slice (some ⟨a, 0, none⟩) 2 2) [l0, l1] := by
  subst hC ha
  have k0 : OwnI (w.alloc (.cells #[u0, u1] 47)) B u0 l0 := World.ownsRow.alloc h0 _
  have k1 : OwnI (w.alloc (.cells #[u0, u1] 47)) B u1 l1 := World.ownsRow.alloc h1 _
  refine ⟨fun i => if i = 0 then u0 else u1, ?_, fun g hg => ?_, fun i hi => ?_, fun i j hij hj g hg => ?_⟩
  · exact World.ownsRow_lit w #[u0, u1] 2 hB (by unfold maxLen; omega) rfl
  · simp [Value.ownBlock] at hg
    rw [← hg]; simp
  · have hi2 : i < 2 := hi
    rcases (show i = 0 ∨ i = 1 by omega) with rfl | rfl
    · exact ⟨k0, fun g hg => (k0.lt g hg).2⟩
    · exact ⟨k1, fun g hg => (k1.lt g hg).2⟩
  · have hj2 : j < 2 := hj
    obtain rfl : i = 0 := by omega
    obtain rfl : j = 1 := by omega
    exact hne g hg
end Go.Proofs.Ytpnapdhcdhcacaa
