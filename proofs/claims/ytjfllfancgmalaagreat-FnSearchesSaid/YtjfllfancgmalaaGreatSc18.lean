/- Texts of this claim, merged: ImC, DdA. Conditions: as stated. -/
import Derived.Test.YtjfllfancgmalaaGreatSc14
import Derived.Test.YtjfllfancgmalaaGreatSc3
import Derived.Lib.OthersKept
import Derived.Test.YtjfllfancgmalaaGreatSc17
namespace Go.Proofs.YtjfllfancgmalaaGreat
open Go.RowKit

theorem info8s : (Tryz.prog.info? 5).map (fun i => (i.zero, i.size, i.bytes)) = some (some (.int .u8 0), 1, 1) := by kernel_rfl
/-- The letters of columns. -/
def ltr (l : List Int) : List UInt8 := l.map fun i => UInt8.ofNat (65 + i).toNat
theorem ltr_take {l : List Int} {k : Nat} (h : k < l.length) : ltr (l.take (k + 1)) = ltr (l.take k) ++ [UInt8.ofNat (65 + l[k]).toNat] := by
  unfold ltr; rw [List.take_succ_eq_append_getElem h, List.map_append]; rfl
theorem ltr_len (l : List Int) (k : Nat) : (ltr (l.take k)).length ≤ k := by
  unfold ltr; rw [List.length_map]; exact List.length_take_le _ _
theorem ltr_fmt : ∀ X : Fin 32, X.val ≠ 0 → (⟨(ltr (mems ((X.val : Nat) : Int))).toArray⟩ : ByteArray) = fmtA ((X.val : Nat) : Int) := by
  intro X h
  apply str_ext
  revert X
  decide +kernel
theorem own_apart {w : World} {B B' : Nat} {v v' : Value} {l : List UInt8} {l' : List Int} (h : OwnB w B 5 v l) (h' : OwnI w B' v' l') : ∀ g, v.ownBlock = some g → v'.ownBlock ≠ some g := by
  intro g hg hg'
  rcases h.2 with ⟨rfl, _⟩ | ⟨g1, cap, cur, rfl, hB, hgg, rest⟩
  · cases hg
  · rcases h'.2 with ⟨rfl, _⟩ | ⟨g2, cap2, cur2, rfl, hB2, hgg2, rest2⟩
    · cases hg'
    · simp [Value.ownBlock] at hg hg'
      subst hg hg'
      rw [hgg] at hgg2
      simp at hgg2
end Go.Proofs.YtjfllfancgmalaaGreat
namespace Go.Proofs.YtjfllfancgmalaaGreat
open Go.RowKit

theorem isA_cols {n x : Int} (h : isA n x = true) : 0 ≤ n ∧ n ≤ 5 := by unfold isA at h; rw [decide_eq_true_iff] at h; exact h.1
theorem depB_eq (n l r : Int) : depB n l r = (isA n l && (decide (0 ≤ r) && decide (r < n))) := by
  rw [Bool.eq_iff_iff, depB_iff, Bool.and_eq_true, Bool.and_eq_true, decide_eq_true_iff, decide_eq_true_iff]
  constructor
  · rintro ⟨h1, h2, h3, h4⟩; exact ⟨h2, h3, by omega⟩
  · rintro ⟨h1, h2, h3⟩
    have hn := isA_cols h1
    exact ⟨by omega, h1, h2, by omega⟩
set_option maxHeartbeats 800000 in
theorem implIsDep_all (n l r : Int) (_w1 : (Lit.int .i64 l).wf = true) (w : World) :
    Calls Tryz.prog 87 #[.int .i64 n, .agg #[.int .i64 l, .int .i64 r]] w fun e w' => e = .returned (.bool (depB n l r)) ∧ Below w.heap.size w w' := by
  have hb1 := (Below.refl w.heap.size w).alloc (Nat.le_refl _) (.cells #[.int .i64 l, .int .i64 r] 38)
  obtain ⟨c0, c1⟩ := zero2 w 38 (.int .i64 l) (.int .i64 r)
  have HBX := Lib.hid (fun w' (hb : Below (w.alloc (.cells #[.int .i64 l, .int .i64 r] 38)).heap.size (w.alloc (.cells #[.int .i64 l, .int .i64 r] 38)) w') => And.intro (hb1.trans (hb.mono hb1.size)) (box2 hb))
  have HA := Lib.hid (implIsA_any n l (wf_i64_ge _w1) (wf_i64_le _w1))
  have hE := depB_eq n l r
  cases ha : isA n l with
  | false =>
    rw [ha] at HA hE
    have HE : Hid (depB n l r = false) := Lib.hid (by rw [hE]; rfl)
    clear hE ha
    go_enter Tryz.func87, Tryz.ntmps87
    go_wp2_with fail
    refine (HA.out _).mono ?_
    rintro e w1 ⟨rfl, b1⟩
    obtain ⟨hb2, d0, d1⟩ := HBX.out _ b1
    clear b1 c0 c1
    go_wp2_with fail
    go_ret
    exact ⟨ret_b HE.out, hb2⟩
  | true =>
    rw [ha] at HA hE
    rw [Bool.true_and] at hE
    by_cases h0 : 0 ≤ r
    · by_cases h1 : r < n
      · have HE : Hid (depB n l r = true) := Lib.hid (by rw [hE, decide_eq_true h0, decide_eq_true h1]; rfl)
        clear hE ha
        go_enter Tryz.func87, Tryz.ntmps87
        go_wp2_with fail
        refine (HA.out _).mono ?_
        rintro e w1 ⟨rfl, b1⟩
        obtain ⟨hb2, d0, d1⟩ := HBX.out _ b1
        clear b1 c0 c1
        go_wp2_with fail
        go_ret
        exact ⟨ret_b HE.out, hb2⟩
      · have HE : Hid (depB n l r = false) := Lib.hid (by rw [hE, decide_eq_false h1]; simp)
        clear hE ha
        go_enter Tryz.func87, Tryz.ntmps87
        go_wp2_with fail
        refine (HA.out _).mono ?_
        rintro e w1 ⟨rfl, b1⟩
        obtain ⟨hb2, d0, d1⟩ := HBX.out _ b1
        clear b1 c0 c1
        go_wp2_with fail
        go_ret
        exact ⟨ret_b (by rw [HE.out, decide_eq_false (Int.not_lt.2 h1)]), hb2⟩
    · have HE : Hid (depB n l r = false) := Lib.hid (by rw [hE, decide_eq_false h0]; rfl)
      clear hE ha
      go_enter Tryz.func87, Tryz.ntmps87
      go_wp2_with fail
      refine (HA.out _).mono ?_
      rintro e w1 ⟨rfl, b1⟩
      obtain ⟨hb2, d0, d1⟩ := HBX.out _ b1
      clear b1 c0 c1
      go_wp2_with fail
      go_ret
      exact ⟨ret_b HE.out, hb2⟩
theorem implIsDep_any (n l r : Int) (_w0 : (Lit.int .i64 n).wf = true) (_w1 : (Lit.int .i64 l).wf = true) (_w2 : (Lit.int .i64 r).wf = true) (w : World) :
    Calls Tryz.prog 87 #[.int .i64 n, .agg #[.int .i64 l, .int .i64 r]] w fun e w' => e = .returned (.bool (depB n l r)) ∧ Below w.heap.size w w' := implIsDep_all n l r _w1 w
theorem depB_five {l r : Int} (h : depB 5 l r = true) : ∃ L R : Nat, l = (L : Int) ∧ r = (R : Int) ∧ L < 32 ∧ R ≤ 4 := by
  rw [depB_iff] at h
  obtain ⟨-, h2, h3, h4⟩ := h
  unfold isA at h2
  rw [decide_eq_true_iff] at h2
  obtain ⟨-, h5, h6⟩ := h2
  have h7 : l ≤ 31 := h6
  exact ⟨l.toNat, r.toNat, by omega, by omega, by omega, by omega⟩
theorem fmtD_dep (l r : Int) : fmtD l r = if depB 5 l r = true then fmtA l ++ ⟨#[62]⟩ ++ fmtA (2 ^ r.toNat : Nat) else ⟨#[]⟩ := by
  have h : (depB 5 l r = true) ↔ (valB l = true ∧ 0 ≤ r ∧ r ≤ 4) := by
    rw [depB_iff]
    unfold isA valB
    rw [decide_eq_true_iff, decide_eq_true_iff]
    have : (2 : Int) ^ (5 : Int).toNat - 1 = 31 := rfl
    rw [this]
    constructor
    · rintro ⟨-, ⟨-, h1⟩, h2, h3⟩; exact ⟨h1, h2, by omega⟩
    · rintro ⟨h1, h2, h3⟩; exact ⟨by omega, ⟨by omega, h1⟩, h2, by omega⟩
  unfold fmtD
  by_cases h' : depB 5 l r = true
  · rw [if_pos h', if_pos (h.1 h')]
  · rw [if_neg h', if_neg (fun e => h' (h.2 e))]
end Go.Proofs.YtjfllfancgmalaaGreat
