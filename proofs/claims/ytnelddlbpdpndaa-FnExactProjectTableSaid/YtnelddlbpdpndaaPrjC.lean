/- A record's first values in memory of their own, by contract. Conditions: as stated. -/
import Derived.Test.YtnelddlbpdpndaaPrjB
import Derived.Laws.CopyOwn
namespace Go.Proofs.Ytnelddlbpdpndaa
open Go.RowKit

theorem splice_all {α : Type} (L cs : List α) (h : cs.length = L.length) : splice L 0 cs = cs := by
  unfold splice
  rw [List.take_zero, List.drop_of_length_le (by omega)]; simp
theorem madeRow {w : World} {B g n : Nat} {e : TypeId} {xs : List Value} (h : w.ownsRow B e 1 (.slice (some ⟨g, 0, none⟩) n n) n xs) : ∃ cur : List Value, w.heap[g]? = some (.cells cur.toArray e) ∧ cur.length = n := by
  rcases h.2 with ⟨h', _⟩ | ⟨g', cap, cur, h', hB, hgg, hnc, hm, hs, ht⟩
  · cases h'
  · simp at h'
    obtain ⟨rfl, rfl⟩ := h'
    exact ⟨cur.toList, by simpa using hgg, by simpa using hs⟩
theorem ownI_of {w : World} {B g : Nat} {l : List Int} (hB : B ≤ g) (h : w.heap[g]? = some (.cells (intsV l).toArray 3)) (hm : l.length ≤ maxLen) : OwnI w B (.slice (some ⟨g, 0, none⟩) l.length l.length) l :=
  ⟨by rw [intsV_length]; omega, .inr ⟨g, l.length, (intsV l).toArray, rfl, hB, h, Nat.le_refl _, hm, by simp [intsV_length], by rw [Nat.mul_one, List.take_of_length_le (by simp [intsV_length])]⟩⟩
set_option maxHeartbeats 1600000 in
theorem recRow_any (b n : Nat) (r : List Int) (w : World) (h : RecAt w b r) (hb : b < w.heap.size) (hn : n ≤ 5) :
    Calls Try.prog 38 #[.pointer (some ⟨b, 0, none⟩), .int .i64 (n : Int)] w (RetI ((pad5 r).take n) w) := by
  obtain ⟨i0, hi, hz0, hz1, hz2⟩ := info_parts info3j
  have HI : Hid (_ ∧ _ ∧ _ ∧ _) := Lib.hid ⟨hi, hz0, hz1, hz2⟩
  have HSZ : Hid (Option.map (fun x => x.size) (Try.prog.info? 3) = some 1) := Lib.hid (by rw [hi]; simp [hz1])
  clear hi hz0 hz1 hz2
  obtain ⟨X, hX⟩ : ∃ X, X = (pad5 r).take n := ⟨_, rfl⟩
  have hXl : X.length = n := by rw [hX, List.length_take, pad5_len]; omega
  have HRD : Hid (∀ w' : World, Below w.heap.size w w' → ∀ (j : Nat) (u : Value), (intsV X)[j]? = some u → w'.cell? ((⟨b, 0, none⟩ : Addr).add j) = some u) := Lib.hid fun w' hw j u hu => by
    have hj : j < X.length := by
      rw [List.getElem?_eq_some_iff] at hu
      obtain ⟨h1, -⟩ := hu
      rwa [intsV_length] at h1
    rw [intsV_get _ _ hj] at hu
    obtain rfl := Option.some.inj hu
    rw [add_zero_off, hw.cell hb, (h j (by omega)).1]
    congr 2
    subst hX
    rw [List.getElem_take, pad5_get]
  rw [← hX]
  have HL := Lib.hid hXl
  have HB := Lib.hid hb
  clear hX h hb hXl
  go_enter Try.func38, Try.ntmps38
  go_wp2_with (first
    | (at_make; refine wpList_make_full _ rfl _ _ 31 rfl w.heap.size 3 i0 (.int .i64 0) 1 Try.underlying31 HI.out.1 HI.out.2.1 HI.out.2.2.1 .i64 .i64 _ _ n rfl rfl rfl rfl (by rw [HI.out.2.2.2]; omega) (by unfold maxLen; omega) (Nat.le_refl _) ?_; intro w0 hown0 hgrow0; have hb0 := (Below.refl w.heap.size w).grown hgrow0 (Nat.le_refl _) (by simp); obtain ⟨cur, hcur, hcl⟩ := madeRow hown0; clear hown0 hgrow0)
    | (refine wpList_copy_splice rfl (.tmp 8) (.tmp 11) 31 31 rfl 3 Try.underlying31 HSZ.out _ _ n n 5 5 rfl rfl w.heap.size 0 cur 3 hcur (intsV X) (by rw [intsV_length, HL.out]; exact (Nat.min_eq_right hn).symm) (fun _ => ⟨rfl, _, rfl, HRD.out _ hb0⟩) (by rw [intsV_length, HL.out, hcl]; omega) (intsV_one X) w.heap.size w hb0 (Nat.le_refl _) ?_; intro w1 hg1 hb1; rw [splice_all _ _ (by rw [intsV_length, HL.out, hcl])] at hg1; have ho := ownI_of (Nat.le_refl _) hg1.out (by rw [HL.out]; unfold maxLen; omega); rw [HL.out] at ho; clear hcur hcl))
  go_ret
  exact ⟨_, rfl, ho, hb1⟩
end Go.Proofs.Ytnelddlbpdpndaa
