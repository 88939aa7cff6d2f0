/- The rows that are left are those of the model's projection: plain facts. Conditions: as stated. -/
import Derived.Test.YtnelddlbpdpndaaPrjF
namespace Go.Proofs.Ytnelddlbpdpndaa
open Go.RowKit

theorem pad5_eq (r : List Int) (h : r.length ≤ 5) : pad5 r = r ++ List.replicate (5 - r.length) 0 := by
  apply List.ext_getElem
  · rw [pad5_len, List.length_append, List.length_replicate]; omega
  · intro i h1 h2
    rw [pad5_get, List.getElem_append]
    split
    · next hi => rw [getD_get _ _ _ hi]
    · next hi => rw [getD_end _ _ (by omega)]; simp
theorem pad5_take (r : List Int) (h : r.length ≤ 5) : (pad5 r).take r.length = r := by rw [pad5_eq r h, List.take_left]
theorem lessR_app : ∀ (a b z : List Int), a.length = b.length → lessR (a ++ z) (b ++ z) = lessR a b
  | [], [], z, _ => by rw [List.nil_append]; exact lessR_irrefl z
  | [], _ :: _, _, h => by simp at h
  | _ :: _, [], _, h => by simp at h
  | x :: a, y :: b, z, h => by
    simp only [List.cons_append, lessR]
    rw [lessR_app a b z (by simpa using h)]
theorem lessR_pad {a b : List Int} (h : a.length = b.length) (h5 : a.length ≤ 5) : lessR (pad5 a) (pad5 b) = lessR a b := by
  rw [pad5_eq a h5, pad5_eq b (by omega), ← h]; exact lessR_app a b _ h
theorem rows_left {P l' : List (Nat × List Int)} {rows : List (List Int)} {m : Nat} (hP : P.map (·.2) = rows) (hp : l'.Perm P) (ho : Ordd l') (hm : m ≤ 5) (hr : ∀ r ∈ rows, r.length = m) :
    (ddL l').map (fun p => (pad5 p.2).take m) = onceL rows := by
  have hlen : ∀ p ∈ l', p.2.length = m := fun p hpm => hr _ (by rw [← hP]; exact List.mem_map.2 ⟨p, hp.mem_iff.1 hpm, rfl⟩)
  have hsub : ∀ p ∈ ddL l', p ∈ l' := fun p hpm => ddL_sub l' l'.length (Nat.le_refl _) p (by rw [List.take_length]; exact hpm)
  have htk : ∀ p ∈ l', (pad5 p.2).take m = p.2 := fun p hpm => by rw [← hlen p hpm]; exact pad5_take _ (by rw [hlen p hpm]; exact hm)
  have e : (ddL l').map (fun p => (pad5 p.2).take m) = (ddL l').map (·.2) := List.map_congr_left fun p hpm => htk p (hsub p hpm)
  rw [e]
  apply onceL_eq
  · unfold Asc
    rw [List.pairwise_map]
    have ha := ddL_asc l' ho l'.length (Nat.le_refl _)
    rw [List.take_length] at ha
    refine ha.imp_of_mem fun {a b} h1 h2 h3 => ?_
    rw [lessR_pad (by rw [hlen a (hsub a h1), hlen b (hsub b h2)]) (by rw [hlen a (hsub a h1)]; exact hm)] at h3
    exact h3
  · intro z
    have hv := ddL_vals l' l'.length (Nat.le_refl _)
    rw [List.take_length] at hv
    have h1 : z ∈ rows ↔ z ∈ l'.map (·.2) := by rw [← hP]; exact (hp.map _).mem_iff.symm
    rw [h1]
    constructor
    · intro hz
      obtain ⟨p, hpm, rfl⟩ := List.mem_map.1 hz
      exact List.mem_map.2 ⟨p, hsub p hpm, rfl⟩
    · intro hz
      obtain ⟨p, hpm, rfl⟩ := List.mem_map.1 hz
      obtain ⟨p2, hp2, he⟩ := List.mem_map.1 ((hv (pad5 p.2)).2 (List.mem_map.2 ⟨p, hpm, rfl⟩))
      refine List.mem_map.2 ⟨p2, hp2, ?_⟩
      have := congrArg (List.take m) he
      rwa [htk p2 (hsub p2 hp2), htk p hpm] at this
end Go.Proofs.Ytnelddlbpdpndaa
