/- Texts of this claim, merged: ClM. Conditions: as stated. -/
import Derived.Test.YtcgkfbjdlhapkaaYa15
import Derived.Test.YtcgkfbjdlhapkaaYa16
import Derived.Test.YtcgkfbjdlhapkaaImMm
namespace Go.Proofs.Ytcgkfbjdlhapkaa
open Go.RowKit

theorem getD_take2 {l : List (Int × Int)} {k i : Nat} (h : i < k) : (l.take k).getD i (0, 0) = l.getD i (0, 0) := by
  rw [List.getD_eq_getElem?_getD, List.getElem?_take, if_pos h, ← List.getD_eq_getElem?_getD]
theorem getD_drop2 {l : List (Int × Int)} {k i : Nat} : (l.drop k).getD i (0, 0) = l.getD (k + i) (0, 0) := by
  rw [List.getD_eq_getElem?_getD, List.getElem?_drop, ← List.getD_eq_getElem?_getD]
theorem ReadD.take {w : World} {a : Option Addr} {n cap : Nat} {l : List (Int × Int)} (h : ReadD w (.slice a n cap) l) (k : Nat) (hk : k ≤ l.length) (c : Nat) : ReadD w (.slice a k c) (l.take k) := by
  obtain ⟨a', cap', hv, hc⟩ := h
  cases hv
  refine ⟨a, c, by rw [List.length_take, Nat.min_eq_left hk], fun i hi => ?_⟩
  rw [List.length_take, Nat.min_eq_left hk] at hi
  rw [getD_take2 hi]
  exact hc i (by omega)
theorem ReadD.drop {w : World} {b o n cap : Nat} {l : List (Int × Int)} (h : ReadD w (.slice (some ⟨b, o, none⟩) n cap) l) (k : Nat) (c : Nat) : ReadD w (.slice (some ⟨b, o + k * 2, none⟩) (l.length - k) c) (l.drop k) := by
  obtain ⟨a', cap', hv, hc⟩ := h
  cases hv
  refine ⟨_, c, by rw [List.length_drop], fun i hi => ?_⟩
  rw [List.length_drop] at hi
  rw [getD_drop2]
  obtain ⟨b', o', e, h0, h1⟩ := hc (k + i) (by omega)
  cases e
  exact ⟨_, _, rfl, by rw [show o + k * 2 + i * 2 = o + (k + i) * 2 by omega]; exact h0, by rw [show o + k * 2 + i * 2 = o + (k + i) * 2 by omega]; exact h1⟩
theorem newsDn {w : World} {a : Option Addr} {n c : Nat} {l : List (Int × Int)} (h : ReadD w (.slice a n c) l) : ∀ j u, (depsV l)[j]? = some u → ∃ x, a = some x ∧ w.cell? (x.add j) = some u := by
  have e : n = l.length := by obtain ⟨_, _, hv, _⟩ := h; cases hv; rfl
  subst e
  exact newsD h
theorem OwnD.capOk {w : World} {B : Nat} {v : Value} {ds : List (Int × Int)} (h : OwnD w B v ds) : CapOk v := by
  obtain ⟨-, h1⟩ := h
  intro a n cap e
  rcases h1 with ⟨h2, -⟩ | ⟨g, cap', cur, h2, -, -, h3, -⟩
  · rw [h2] at e; cases e; exact Nat.le_refl _
  · rw [h2] at e; cases e; exact h3
theorem own_take {w : World} {B : Nat} {v : Value} {l : List (Int × Int)} {k : Nat} (h : w.ownsRow B 44 2 v (0 + k) ([] ++ depsV (l.take k))) : w.ownsRow B 44 2 v k (depsV (l.take k)) ∧ ∃ a c, v = .slice a k c := by
  rw [Nat.zero_add, List.nil_append] at h
  refine ⟨h, ?_⟩
  rcases h.2 with ⟨rfl, h0⟩ | ⟨g, cap, cur, rfl, -⟩
  · exact ⟨_, _, by rw [h0]⟩
  · exact ⟨_, _, rfl⟩
theorem own_erase {w : World} {B : Nat} {v : Value} {l : List (Int × Int)} {k : Nat} (hk : k < l.length) (h : w.ownsRow B 44 2 v (k + (l.length - (k + 1))) (depsV (l.take k) ++ depsV (l.drop (k + 1)))) : OwnD w B v (l.eraseIdx k) := by
  unfold OwnD
  have e : (l.eraseIdx k).length = k + (l.length - (k + 1)) := by rw [List.length_eraseIdx, if_pos hk]; omega
  rw [e, List.eraseIdx_eq_take_drop_succ, depsV_append]
  exact h
theorem own_erase0 {w : World} {B : Nat} {v : Value} {l : List (Int × Int)} {k : Nat} (hk : l.length = k + 1) (h : w.ownsRow B 44 2 v (k + 0) (depsV (l.take k) ++ [])) : OwnD w B v (l.eraseIdx k) := by
  have e : l.drop (k + 1) = [] := List.drop_eq_nil_of_le (by omega)
  refine own_erase (by omega) ?_
  rw [e, hk, Nat.sub_self]
  exact h
section
set_option maxRecDepth 20000
set_option maxHeartbeats 3200000
theorem without11_any (v : Value) (k : Nat) (l : List (Int × Int)) (w : World) (hr : ReadD w v l) (hl : l.length ≤ 1048576) (hk : k < l.length) (hcap : CapOk v) :
    Calls Try.prog 107 #[v, .int .i64 (k : Int)] w (RetD (l.eraseIdx k) w) := by
  obtain ⟨i0, hi, hz0, hz1, hz2⟩ := info_parts infoDp
  have HI : Hid (_ ∧ _ ∧ _ ∧ _) := Lib.hid ⟨hi, hz0, hz1, hz2⟩
  clear hi hz0 hz1 hz2
  have HR := Lib.hid (fun w' (hb : Below w.heap.size w w') => hr.kept hb)
  obtain ⟨a, cap, rfl, hc⟩ := hr
  obtain ⟨b, o, rfl, -, -⟩ := hc 0 (by omega)
  have hcl := hcap _ _ _ rfl
  have y0 : k ≤ cap := by omega
  have y1 : k + 1 ≤ cap := by omega
  have y2 : k ≤ l.length := by omega
  have y3 : k + 1 ≤ l.length := by omega
  clear hc hcap
  have z0 : (0 : Int) ≤ (k : Int) := by omega
  have z1 : (k : Int) < (l.length : Int) := by omega
  have hb1 := (Below.refl w.heap.size w).alloc (Nat.le_refl _) (.cells #[] 44)
  have ho1 := own_made w w.heap.size 44 2 (Nat.le_refl _)
  have hn1 := newsDn ((HR.out _ hb1).take k (by omega) cap)
  have HO1 := Lib.hid ho1
  have HB1 := Lib.hid hb1
  have HN1 := Lib.hid hn1
  have HL1 : Hid ((depsV (l.take k)).length = k * 2) := Lib.hid (by rw [depsV_len, List.length_take, Nat.min_eq_left (by omega)])
  clear hb1 ho1 hn1
  have HK := Lib.hid hk
  have HE1 : Hid ((depsV (l.drop (k + 1))).length = (l.length - (k + 1)) * 2) := Lib.hid (by rw [depsV_len, List.length_drop])
  have hml : l.length - (k + 1) ≤ 1048576 := by omega
  by_cases hce : k + 1 = cap
  · have HK1 : Hid (l.length = k + 1) := Lib.hid (by omega)
    subst hce
    go_enter Try.func107, Try.ntmps107
    go_wp2_with (first | (at_builtin; refine wpList_append_all rfl _ _ 26 rfl w.heap.size 44 i0 (.agg #[.int .i64 0, .int .i64 0]) 2 16 Try.underlying26 HI.out.1 HI.out.2.1 HI.out.2.2.1 HI.out.2.2.2 rfl (by decide) _ _ _ rfl HO1.out (some ⟨b, o, none⟩) k _ (depsV (l.take k)) rfl HL1.out HN1.out (depsV_one _) (by unfold maxLen; omega) (by omega) (by simp) ?_; intro v2 w2 hown2 hgrow2; obtain ⟨hown2, a2, c2, rfl⟩ := own_take hown2; have HO2 := Lib.hid hown2; have HB2 := Lib.hid (HB1.out.grown hgrow2 (by rw [World.size_alloc]; omega) (fun g hg => by have h := (World.ownsRow.lt HO1.out g hg).1; exact h)); clear hown2 hgrow2) | (at_builtin; refine wpList_append_all rfl _ _ 26 rfl w.heap.size 44 i0 (.agg #[.int .i64 0, .int .i64 0]) 2 16 Try.underlying26 HI.out.1 HI.out.2.1 HI.out.2.2.1 HI.out.2.2.2 rfl (by decide) _ _ _ rfl HO2.out (some ⟨b, o, none⟩) 0 _ [] rfl rfl (fun j u hu => by cases hu) (fun u hu => by cases hu) (by unfold maxLen; omega) (by omega) (HB2.out.size) ?_; intro v3 w3 hown3 hgrow3; have HO3 := Lib.hid (own_erase0 HK1.out hown3); have HB3 := Lib.hid (HB2.out.grown hgrow3 (HB2.out.size) (fun g hg => by have h := (World.ownsRow.lt HO2.out g hg).1; exact h)); clear hown3 hgrow3))
    go_ret
    exact ⟨_, rfl, HO3.out, HB3.out⟩
  · have hlt : k + 1 < cap := by omega
    have hD0 : Hid (∀ w' : World, Below w.heap.size w w' → ∀ j u, (depsV (l.drop (k + 1)))[j]? = some u → ∃ x, some (⟨b, o + (k + 1) * 2, none⟩ : Addr) = some x ∧ w'.cell? (x.add j) = some u) := Lib.hid (fun w' hb => newsDn ((HR.out w' hb).drop (k + 1) (cap - (k + 1))))
    clear y1
    go_enter Try.func107, Try.ntmps107
    go_wp2_with (first | (at_builtin; refine wpList_append_all rfl _ _ 26 rfl w.heap.size 44 i0 (.agg #[.int .i64 0, .int .i64 0]) 2 16 Try.underlying26 HI.out.1 HI.out.2.1 HI.out.2.2.1 HI.out.2.2.2 rfl (by decide) _ _ _ rfl HO1.out (some ⟨b, o, none⟩) k _ (depsV (l.take k)) rfl HL1.out HN1.out (depsV_one _) (by unfold maxLen; omega) (by omega) (by simp) ?_; intro v2 w2 hown2 hgrow2; obtain ⟨hown2, a2, c2, rfl⟩ := own_take hown2; have HO2 := Lib.hid hown2; have HB2 := Lib.hid (HB1.out.grown hgrow2 (by rw [World.size_alloc]; omega) (fun g hg => by have h := (World.ownsRow.lt HO1.out g hg).1; exact h)); clear hown2 hgrow2) | (at_builtin; refine wpList_append_all rfl _ _ 26 rfl w.heap.size 44 i0 (.agg #[.int .i64 0, .int .i64 0]) 2 16 Try.underlying26 HI.out.1 HI.out.2.1 HI.out.2.2.1 HI.out.2.2.2 rfl (by decide) _ _ _ rfl HO2.out (some ⟨b, o + (k + 1) * 2, none⟩) (l.length - (k + 1)) _ (depsV (l.drop (k + 1))) rfl HE1.out (hD0.out _ HB2.out) (depsV_one _) (by unfold maxLen; omega) (by omega) (HB2.out.size) ?_; intro v3 w3 hown3 hgrow3; have HO3 := Lib.hid (own_erase HK.out hown3); have HB3 := Lib.hid (HB2.out.grown hgrow3 (HB2.out.size) (fun g hg => by have h := (World.ownsRow.lt HO2.out g hg).1; exact h)); clear hown3 hgrow3))
    go_ret
    exact ⟨_, rfl, HO3.out, HB3.out⟩
end
end Go.Proofs.Ytcgkfbjdlhapkaa
