/- Texts of this claim, merged: AgrE, AscS, ImA, ImT, ImJ. Conditions: as stated. -/
import Derived.Test.YtnbjcelfdppkcaaGreatTc10
import Derived.BigQuiet
import Derived.Test.YtnbjcelfdppkcaaGreatTc3
namespace Go.Proofs.YtnbjcelfdppkcaaGreat
open Go.RowKit

def setsOk (l : List Int) : Bool := l.all valB && decide (l.length ≤ 100)
set_option maxHeartbeats 800000 in
theorem l4Sets_any (v : Value) (l : List Int) (w : World) (hr : ReadI w v l) (hl : l.length ≤ 1048576) :
    Calls Tryz.prog 45 #[v] w fun e w' => e = .returned (.bool (setsOk l)) ∧ w = w' := by
  obtain ⟨a, cap, rfl, ha⟩ := hr
  have HA := Lib.hid ha
  have HV := Lib.hid (fun x => valid_any x w)
  clear ha
  go_enter Tryz.func45, Tryz.ntmps45
  go_wp2_with fail
  go_loop [3] (fun iv => ∃ k : Nat, k ≤ l.length ∧ iv = .int .i64 (k : Int) ∧ Hid ((l.take k).all valB = true)) (fun iv => l.length - (intOf iv).toNat)
  case atStart => exact ⟨0, by omega, rfl, Lib.hid rfl⟩
  case round =>
    obtain ⟨k, hk, rfl, hall⟩ := hrel
    by_cases hlt : k < l.length
    · obtain ⟨b, rfl, hb⟩ := HA.out k hlt
      have z0 : (0 : Int) ≤ (k : Int) := by omega
      have z1 : (k : Int) < (l.length : Int) := by omega
      have HOK := Lib.hid (fun h => all_snoc (p := valB) hlt hall.out h)
      have HNO := Lib.hid (fun h => all_not (p := valB) hlt h)
      obtain ⟨y, hy⟩ : ∃ y, y = l[k] := ⟨_, rfl⟩
      rw [← hy] at hb HOK HNO
      have HQ := Lib.hid (HV.out y)
      clear hy
      cases hv : valB y with
      | true =>
        rw [hv] at HQ
        have HX := Lib.hid (HOK.out hv)
        clear hv
        go_wp2_with fail
        refine HQ.out.mono ?_
        rintro e w' ⟨rfl, rfl⟩
        go_wp2_with fail
        go_round
        case rel => exact ⟨k + 1, by omega, by go_num, HX⟩
        case measure => simp [intOf]; omega
      | false =>
        rw [hv] at HQ
        have HX := Lib.hid (HNO.out hv)
        clear hv
        go_wp2_with fail
        refine HQ.out.mono ?_
        rintro e w' ⟨rfl, rfl⟩
        go_wp2_with fail
        go_ret
        exact ⟨ret_b (by unfold setsOk; rw [HX.out]; rfl), rfl⟩
    · obtain rfl : k = l.length := by omega
      have HX : Hid (l.all valB = true) := Lib.hid (by have := hall.out; rwa [List.take_length] at this)
      go_wp2_with fail
      go_ret
      exact ⟨ret_b (by unfold setsOk; rw [HX.out, Bool.true_and, decide_eq_decide]; omega), rfl⟩
/-- Whether x is kept against the first k elements. -/
def topK (l : List Int) (x : Int) : Nat → Bool
  | 0 => true
  | k + 1 => topK l x k && (l.getD k 0 == x || bits .and .i64 x (l.getD k 0) != x)
def mxTo (l : List Int) : Nat → List Int
  | 0 => []
  | i + 1 => if topK l (l.getD i 0) l.length = true then put4 (mxTo l i) (l.getD i 0) else mxTo l i
def maxS (l : List Int) : List Int := if setsOk l = true then mxTo l l.length else []
theorem mxTo_len (l : List Int) (i : Nat) : (mxTo l i).length ≤ i := by
  induction i with
  | zero => simp [mxTo]
  | succ i ih => have := put4_len (mxTo l i) (l.getD i 0); unfold mxTo; split <;> omega
/-- Whether x is kept against the first k elements. -/
def lowK (l : List Int) (x : Int) : Nat → Bool
  | 0 => true
  | k + 1 => lowK l x k && (l.getD k 0 == x || bits .and .i64 x (l.getD k 0) != (l.getD k 0))
def mnTo (l : List Int) : Nat → List Int
  | 0 => []
  | i + 1 => if lowK l (l.getD i 0) l.length = true then put4 (mnTo l i) (l.getD i 0) else mnTo l i
def minS (l : List Int) : List Int := if setsOk l = true then mnTo l l.length else []
theorem mnTo_len (l : List Int) (i : Nat) : (mnTo l i).length ≤ i := by
  induction i with
  | zero => simp [mnTo]
  | succ i ih => have := put4_len (mnTo l i) (l.getD i 0); unfold mnTo; split <;> omega
set_option maxHeartbeats 3200000 in
theorem minimalSets_any (v : Value) (l : List Int) (w : World) (hr : ReadI w v l) (hl : l.length ≤ 1048576) :
    Calls Tryz.prog 22 #[v] w (RetI (minS l) w) := by
  have HF := Lib.hid (fun w' (hb : Below w.heap.size w w') => l4Sets_any v l w' (hr.kept hb) hl)
  obtain ⟨a, cap, rfl, ha⟩ := hr
  have HA := Lib.hid ha
  clear ha
  have hmk : OwnI (w.alloc (.cells #[] 3)) w.heap.size (.slice (some ⟨w.heap.size, 0, none⟩) 0 0) [] := OwnI.made (World.ownsRow_made w #[] 0 (Nat.le_refl _) (by unfold maxLen; omega) rfl)
  have hb0 : Below w.heap.size w (w.alloc (.cells #[] 3)) := (Below.refl _ _).alloc (Nat.le_refl _) _
  cases hf : setsOk l with
  | false =>
    have HE : Hid (minS l = []) := Lib.hid (by unfold minS; rw [hf]; simp)
    rw [hf] at HF
    clear hf
    go_enter Tryz.func22, Tryz.ntmps22
    go_wp2_with fail
    refine wp_loop_rounds 1 ?_
    rw [rounds_succ]
    by_cases h0 : l.length = 0
    · obtain rfl := List.eq_nil_of_length_eq_zero h0
      clear h0
      go_wp2_with fail
      go_ret
      exact ⟨_, rfl, by rw [HE.out]; exact hmk, hb0⟩
    · have hd2 : 0 < l.length := by omega
      have hd : decide ((0 : Int) < (l.length : Int)) = true := decide_eq_true (by omega)
      clear h0
      go_wp2_with fail
      refine (HF.out _ hb0).mono ?_
      rintro e w' ⟨rfl, rfl⟩
      go_wp2_with fail
      go_ret
      exact ⟨_, rfl, by rw [HE.out]; exact hmk, hb0⟩
  | true =>
    have HE : Hid (minS l = mnTo l l.length) := Lib.hid (by unfold minS; rw [if_pos hf])
    have hl100 : l.length ≤ 100 := by unfold setsOk at hf; simp at hf; exact hf.2
    rw [hf] at HF
    clear hf
    go_enter Tryz.func22, Tryz.ntmps22
    go_wp2_with fail
    go_loopw [3, 4] (fun ov iv wr => ∃ i : Nat, i ≤ l.length ∧ iv = .int .i64 (i : Int) ∧ OwnI wr w.heap.size ov (mnTo l i) ∧ Below w.heap.size w wr) (fun _ iv _ => l.length - (intOf iv).toNat)
    case atStart => exact ⟨0, by omega, rfl, hmk, hb0⟩
    case round =>
      clear hmk hb0
      obtain ⟨i, hi, rfl, ho, hb⟩ := hrel
      by_cases hlt : i < l.length
      · have hd : decide ((i : Int) < (l.length : Int)) = true := decide_eq_true (by omega)
        have HS : Hid (mnTo l (i + 1) = if lowK l (l.getD i 0) l.length = true then put4 (mnTo l i) (l.getD i 0) else mnTo l i) := Lib.hid rfl
        have htl := mnTo_len l i
        obtain ⟨xa, rfl, hxi⟩ := HA.out i hlt
        rw [get_getD l i hlt] at hxi
        obtain ⟨x, hx⟩ : ∃ x, x = l.getD i 0 := ⟨_, rfl⟩
        rw [← hx] at HS hxi
        obtain ⟨lc, hlc⟩ : ∃ lc, lc = mnTo l i := ⟨_, rfl⟩
        rw [← hlc] at HS ho htl
        have HXI := Lib.hid hxi
        have i0 : (0 : Int) ≤ (i : Int) := by omega
        have i1 : (i : Int) < (l.length : Int) := by omega
        clear hx hlc hxi
        go_wp2_with fail
        refine (HF.out _ hb).mono ?_
        rintro e w2 ⟨rfl, rfl⟩
        go_wp2_with fail
        obtain ⟨wi, rfl⟩ : ∃ wi : World, wi = wr := ⟨_, rfl⟩
        go_loopw [5, 6] (fun tv kv wr => ∃ k : Nat, k ≤ l.length ∧ kv = .int .i64 (k : Int) ∧ tv = .bool (lowK l x k) ∧ Below wi.heap.size wi wr) (fun _ kv _ => l.length - (intOf kv).toNat)
        case atStart => exact ⟨0, by omega, rfl, rfl, Below.refl _ _⟩
        case round =>
          obtain ⟨k, hk, rfl, rfl, hbi⟩ := hrel
          have hbw := hb.trans (hbi.mono hb.size)
          have hcx := (hbw.cell (World.block_lt_of_cell? w _ HXI.out)).trans HXI.out
          by_cases hlk : k < l.length
          · obtain ⟨xb, hxb, hyk⟩ := HA.out k hlk
            obtain rfl := Option.some.inj hxb
            have HT2 : Hid (lowK l x (k + 1) = (lowK l x k && (l.getD k 0 == x || bits .and .i64 x (l.getD k 0) != (l.getD k 0)))) := Lib.hid rfl
            rw [get_getD l k hlk] at hyk
            obtain ⟨y, hy⟩ : ∃ y, y = l.getD k 0 := ⟨_, rfl⟩
            rw [← hy] at HT2 hyk
            have hcy := (hbw.cell (World.block_lt_of_cell? w _ hyk)).trans hyk
            have k0 : (0 : Int) ≤ (k : Int) := by omega
            have k1 : (k : Int) < (l.length : Int) := by omega
            clear hy hyk hxb
            cases ht : lowK l x k with
            | false =>
              rw [ht] at HT2
              clear ht
              go_wp2_with fail
              go_quiet (fail)
              go_wp2_with fail
              go_roundw
              case rel => exact ⟨k + 1, by omega, by go_num, by rw [HT2.out]; rfl, below_drewN hbi _⟩
              case measure => simp [intOf]; omega
            | true =>
              rw [ht] at HT2
              clear ht
              by_cases he : y = x
              · subst he
                have HT3 : Hid (lowK l y (k + 1) = true) := Lib.hid (by rw [HT2.out]; simp)
                clear HT2
                go_wp2_with fail
                go_quiet (fail)
                go_wp2_with fail
                go_roundw
                case rel => exact ⟨k + 1, by omega, by go_num, by rw [HT3.out], below_drewN hbi _⟩
                case measure => simp [intOf]; omega
              · have e0 : (y == x) = false := by simpa using he
                rw [e0, Bool.true_and, Bool.false_or] at HT2
                clear he
                go_wp2_with fail
                go_quiet (fail)
                go_wp2_with fail
                go_roundw
                case rel => exact ⟨k + 1, by omega, by go_num, by rw [HT2.out], below_drewN hbi _⟩
                case measure => simp [intOf]; omega
          · obtain rfl : k = l.length := by omega
            have ho3 := ho.kept hbi (fun k hk => (OwnI.lt ho k hk).2)
            have hs3 := hbw.size
            cases ht : lowK l x l.length with
            | true =>
              rw [if_pos ht] at HS
              clear ht
              go_wp2_with fail
              refine (l4Put_any _ _ _ w.heap.size _ ho3 (by omega) (by omega)).mono ?_
              rintro e w4 ⟨v4, rfl, ho4, b4⟩
              have hb4 := hbw.trans (b4.mono hbw.size)
              go_wp2_with fail
              go_roundw
              case rel => exact ⟨i + 1, by omega, by go_num, by rw [HS.out]; exact ho4, hb4⟩
              case measure => simp [intOf]; omega
            | false =>
              rw [if_neg (by rw [ht]; simp)] at HS
              clear ht
              go_wp2_with fail
              go_roundw
              case rel => exact ⟨i + 1, by omega, by go_num, by rw [HS.out]; exact ho3, hbw⟩
              case measure => simp [intOf]; omega
      · obtain rfl : i = l.length := by omega
        have hd2 : ¬ l.length < l.length := by omega
        go_wp2_with fail
        go_ret
        exact ⟨_, rfl, by rw [HE.out]; exact ho, hb⟩
end Go.Proofs.YtnbjcelfdppkcaaGreat
namespace Go.Proofs.YtnbjcelfdppkcaaGreat
open Go.RowKit

/-- In order, no two equal. -/
def AscI (l : List Int) : Prop := l.Pairwise fun a b => a < b
theorem ascI_unique : ∀ (a b : List Int), AscI a → AscI b → (∀ x, x ∈ a ↔ x ∈ b) → a = b
  | [], [], _, _, _ => rfl
  | [], y :: bs, _, _, h => by have := (h y).2 (by simp); cases this
  | x :: s1, [], _, _, h => by have := (h x).1 (by simp); cases this
  | x :: s1, y :: bs, ha, hb, h => by
    unfold AscI at ha hb
    rw [List.pairwise_cons] at ha hb
    have hxy : x = y := by
      have h1 := (h x).1 (by simp)
      have h2 := (h y).2 (by simp)
      rw [List.mem_cons] at h1 h2
      rcases h1 with h1 | h1
      · exact h1
      · rcases h2 with h2 | h2
        · exact h2.symm
        · have e1 := ha.1 y h2
          have e2 := hb.1 x h1
          omega
    subst hxy
    have hx1 : ∀ z ∈ s1, z ≠ x := fun z hz e => by have := ha.1 z hz; omega
    have hx2 : ∀ z ∈ bs, z ≠ x := fun z hz e => by have := hb.1 z hz; omega
    rw [ascI_unique s1 bs ha.2 hb.2 fun z => ⟨fun hz => by
      have := (h z).1 (by simp [hz])
      rw [List.mem_cons] at this
      exact this.resolve_left (hx1 z hz), fun hz => by
      have := (h z).2 (by simp [hz])
      rw [List.mem_cons] at this
      exact this.resolve_left (hx2 z hz)⟩]
theorem ascI_getD {l : List Int} (h : AscI l) {i j : Nat} (hij : i < j) (hj : j < l.length) : l.getD i 0 < l.getD j 0 := by
  rw [← get_getD l i (by omega), ← get_getD l j hj]
  exact List.pairwise_iff_getElem.mp h i j (by omega) hj hij
theorem ascI_snoc {l : List Int} {x : Int} (h : AscI l) (hx : ∀ y ∈ l, y < x) : AscI (l ++ [x]) := by
  unfold AscI
  rw [List.pairwise_append]
  exact ⟨h, List.pairwise_singleton _ _, fun a ha b hb => by rw [List.mem_singleton] at hb; subst hb; exact hx a ha⟩
theorem mem_getD {l : List Int} {y : Int} : y ∈ l ↔ ∃ t, t < l.length ∧ y = l.getD t 0 := by
  constructor
  · intro h
    obtain ⟨t, ht, rfl⟩ := List.mem_iff_getElem.mp h
    exact ⟨t, ht, get_getD l t ht⟩
  · rintro ⟨t, ht, rfl⟩
    rw [← get_getD l t ht]; exact List.getElem_mem ht
theorem take_snocD (l : List Int) (k : Nat) (h : k < l.length) : l.take (k + 1) = l.take k ++ [l.getD k 0] := by
  rw [List.take_succ_eq_append_getElem h, get_getD l k h]
theorem putTo_mem (l : List Int) (x y : Int) : ∀ k, k ≤ l.length → (y ∈ (putTo l x k).2 ↔ y ∈ l.take k ∨ ((putTo l x k).1 = true ∧ y = x))
  | 0, _ => by simp [putTo]
  | k + 1, hk => by
    have ih := putTo_mem l x y k (by omega)
    rw [take_snocD l k (by omega)]
    unfold putTo
    split
    · rename_i h
      rw [h.1] at ih
      have ih' : y ∈ (putTo l x k).2 ↔ y ∈ l.take k := by rw [ih]; simp
      rw [List.mem_append, List.mem_append, List.mem_singleton, List.mem_singleton, List.mem_append, List.mem_singleton, ih']
      constructor
      · rintro ((h1 | h1) | h1)
        · exact Or.inl (Or.inl h1)
        · exact Or.inr ⟨rfl, h1⟩
        · exact Or.inl (Or.inr h1)
      · rintro ((h1 | h1) | ⟨-, h1⟩)
        · exact Or.inl (Or.inl h1)
        · exact Or.inr h1
        · exact Or.inl (Or.inr h1)
    · simp only [List.mem_append, List.mem_singleton, ih]
      constructor
      · rintro ((h1 | h1) | h1)
        · exact Or.inl (Or.inl h1)
        · exact Or.inr h1
        · exact Or.inl (Or.inr h1)
      · rintro ((h1 | h1) | h1)
        · exact Or.inl (Or.inl h1)
        · exact Or.inr h1
        · exact Or.inl (Or.inr h1)
theorem putTo_asc {l : List Int} (hl : AscI l) (x : Int) (hx : x ∉ l) : ∀ k, k ≤ l.length →
    AscI (putTo l x k).2 ∧ (∀ y ∈ (putTo l x k).2, ∀ i, k ≤ i → i < l.length → y < l.getD i 0) ∧ ((putTo l x k).1 = false → ∀ y ∈ (putTo l x k).2, y < x)
  | 0, _ => ⟨List.Pairwise.nil, fun y hy => by simp [putTo] at hy, fun _ y hy => by simp [putTo] at hy⟩
  | k + 1, hk => by
    obtain ⟨h1, h2, h3⟩ := putTo_asc hl x hx k (by omega)
    have hz : ∀ i, k + 1 ≤ i → i < l.length → l.getD k 0 < l.getD i 0 := fun i h h' => ascI_getD hl (by omega) h'
    have hne : l.getD k 0 ≠ x := fun e => hx (by rw [← e]; exact mem_getD.mpr ⟨k, by omega, rfl⟩)
    unfold putTo
    split
    · rename_i h
      refine ⟨ascI_snoc (ascI_snoc h1 (h3 h.1)) fun y hy => ?_, fun y hy i hi hil => ?_, fun e => by cases e⟩
      · rw [List.mem_append, List.mem_singleton] at hy
        rcases hy with hy | rfl
        · exact h2 y hy k (Nat.le_refl _) (by omega)
        · exact h.2
      · rw [List.mem_append, List.mem_append, List.mem_singleton, List.mem_singleton] at hy
        have := hz i hi hil
        rcases hy with (hy | rfl) | rfl
        · exact h2 y hy i (by omega) hil
        · omega
        · exact this
    · rename_i h
      refine ⟨ascI_snoc h1 fun y hy => h2 y hy k (Nat.le_refl _) (by omega), fun y hy i hi hil => ?_, fun e y hy => ?_⟩
      · rw [List.mem_append, List.mem_singleton] at hy
        rcases hy with hy | rfl
        · exact h2 y hy i (by omega) hil
        · exact hz i hi hil
      · rw [List.mem_append, List.mem_singleton] at hy
        rcases hy with hy | rfl
        · exact h3 e y hy
        · have : ¬ x < l.getD k 0 := fun e' => h ⟨e, e'⟩
          omega
theorem put4_mem (l : List Int) (x y : Int) : y ∈ put4 l x ↔ y = x ∨ y ∈ l := by
  have h := putTo_mem l x y l.length (Nat.le_refl _)
  rw [List.take_length] at h
  unfold put4
  split
  · rename_i hx
    constructor
    · exact Or.inr
    · rintro (rfl | h')
      · exact hx
      · exact h'
  · split
    · rename_i h1
      rw [h, h1]; simp
      constructor
      · rintro (h' | h')
        · exact Or.inr h'
        · exact Or.inl h'
      · rintro (h' | h')
        · exact Or.inr h'
        · exact Or.inl h'
    · rename_i h1
      rw [List.mem_append, h, List.mem_singleton]
      simp [h1]
      constructor
      · rintro (h' | h')
        · exact Or.inr h'
        · exact Or.inl h'
      · rintro (h' | h')
        · exact Or.inr h'
        · exact Or.inl h'
theorem put4_asc {l : List Int} (hl : AscI l) (x : Int) : AscI (put4 l x) := by
  unfold put4
  split
  · exact hl
  · rename_i hx
    obtain ⟨h1, -, h3⟩ := putTo_asc hl x hx l.length (Nat.le_refl _)
    split
    · exact h1
    · rename_i h
      exact ascI_snoc h1 (h3 (by simpa using h))
theorem topK_iff (l : List Int) (x : Int) : ∀ n, (topK l x n = true ↔ ∀ t, t < n → (l.getD t 0 == x || bits .and .i64 x (l.getD t 0) != x) = true)
  | 0 => by simp [topK]
  | n + 1 => by
    have ih := topK_iff l x n
    unfold topK
    rw [Bool.and_eq_true, ih]
    constructor
    · rintro ⟨h1, h2⟩ t ht
      by_cases e : t = n
      · subst e; exact h2
      · exact h1 t (by omega)
    · intro h
      exact ⟨fun t ht => h t (by omega), h n (by omega)⟩
theorem lowK_iff (l : List Int) (x : Int) : ∀ n, (lowK l x n = true ↔ ∀ t, t < n → (l.getD t 0 == x || bits .and .i64 x (l.getD t 0) != (l.getD t 0)) = true)
  | 0 => by simp [lowK]
  | n + 1 => by
    have ih := lowK_iff l x n
    unfold lowK
    rw [Bool.and_eq_true, ih]
    constructor
    · rintro ⟨h1, h2⟩ t ht
      by_cases e : t = n
      · subst e; exact h2
      · exact h1 t (by omega)
    · intro h
      exact ⟨fun t ht => h t (by omega), h n (by omega)⟩
theorem mxTo_mem (l : List Int) (y : Int) : ∀ i, (y ∈ mxTo l i ↔ ∃ t, t < i ∧ y = l.getD t 0 ∧ topK l y l.length = true)
  | 0 => by simp [mxTo]
  | i + 1 => by
    have ih := mxTo_mem l y i
    unfold mxTo
    split
    · rename_i h
      rw [put4_mem, ih]
      constructor
      · rintro (rfl | ⟨t, h1, h2, h3⟩)
        · exact ⟨i, by omega, rfl, h⟩
        · exact ⟨t, by omega, h2, h3⟩
      · rintro ⟨t, h1, h2, h3⟩
        by_cases e : t = i
        · subst e; exact Or.inl h2
        · exact Or.inr ⟨t, by omega, h2, h3⟩
    · rename_i h
      rw [ih]
      constructor
      · rintro ⟨t, h1, h2, h3⟩
        exact ⟨t, by omega, h2, h3⟩
      · rintro ⟨t, h1, h2, h3⟩
        by_cases e : t = i
        · subst e; rw [h2] at h3; exact (h h3).elim
        · exact ⟨t, by omega, h2, h3⟩
theorem mnTo_mem (l : List Int) (y : Int) : ∀ i, (y ∈ mnTo l i ↔ ∃ t, t < i ∧ y = l.getD t 0 ∧ lowK l y l.length = true)
  | 0 => by simp [mnTo]
  | i + 1 => by
    have ih := mnTo_mem l y i
    unfold mnTo
    split
    · rename_i h
      rw [put4_mem, ih]
      constructor
      · rintro (rfl | ⟨t, h1, h2, h3⟩)
        · exact ⟨i, by omega, rfl, h⟩
        · exact ⟨t, by omega, h2, h3⟩
      · rintro ⟨t, h1, h2, h3⟩
        by_cases e : t = i
        · subst e; exact Or.inl h2
        · exact Or.inr ⟨t, by omega, h2, h3⟩
    · rename_i h
      rw [ih]
      constructor
      · rintro ⟨t, h1, h2, h3⟩
        exact ⟨t, by omega, h2, h3⟩
      · rintro ⟨t, h1, h2, h3⟩
        by_cases e : t = i
        · subst e; rw [h2] at h3; exact (h h3).elim
        · exact ⟨t, by omega, h2, h3⟩
theorem mxTo_asc (l : List Int) : ∀ i, AscI (mxTo l i)
  | 0 => List.Pairwise.nil
  | i + 1 => by
    unfold mxTo
    split
    · exact put4_asc (mxTo_asc l i) _
    · exact mxTo_asc l i
theorem mnTo_asc (l : List Int) : ∀ i, AscI (mnTo l i)
  | 0 => List.Pairwise.nil
  | i + 1 => by
    unfold mnTo
    split
    · exact put4_asc (mnTo_asc l i) _
    · exact mnTo_asc l i
end Go.Proofs.YtnbjcelfdppkcaaGreat
namespace Go.Proofs.YtnbjcelfdppkcaaGreat
open Go.RowKit

theorem bits_andNot (a b : Int) : bits .andNot .i64 a b = IntKind.i64.wrap ((BitVec.ofInt 64 a &&& ~~~BitVec.ofInt 64 b).toNat : Int) := rfl
theorem bits_and (a b : Int) : bits .and .i64 a b = IntKind.i64.wrap ((BitVec.ofInt 64 a &&& BitVec.ofInt 64 b).toNat : Int) := rfl
theorem bv_part (x y : BitVec 64) : (x &&& ~~~y = 0#64) ↔ (x &&& y = x) := by
  constructor
  · intro h
    apply BitVec.eq_of_getLsbD_eq
    intro i hi
    have h2 : (x &&& ~~~y).getLsbD i = (0#64).getLsbD i := by rw [h]
    simp [hi] at h2 ⊢
    intro hx; exact h2 hx
  · intro h
    rw [← h, BitVec.and_assoc]
    simp
theorem wrap_nat_zero (n : Nat) (h : n < 2 ^ 64) : (IntKind.i64.wrap (n : Int) = 0) ↔ n = 0 := by
  rw [IntKind.wrap_i64]; omega
theorem bv_zero (x : BitVec 64) : (IntKind.i64.wrap (x.toNat : Int) = 0) ↔ x = 0#64 := by
  rw [wrap_nat_zero _ x.isLt]
  constructor
  · intro h; exact BitVec.eq_of_toNat_eq (by simpa using h)
  · intro h; rw [h]; rfl
theorem bv_self (v : BitVec 64) (x : Int) (h0 : -9223372036854775808 ≤ x) (h1 : x ≤ 9223372036854775807) : (IntKind.i64.wrap (v.toNat : Int) = x) ↔ v = BitVec.ofInt 64 x := by
  rw [IntKind.wrap_i64]
  have e := BitVec.toNat_ofInt (n := 64) x
  have l := v.isLt
  constructor
  · intro h
    apply BitVec.eq_of_toNat_eq
    rw [e]; omega
  · intro h
    rw [h, e]; omega
/-- 'x &^ y == 0': the same as 'x & y == x'. -/
def partZ (x y : Int) : Bool := bits .andNot .i64 x y == 0
theorem partZ_eq (x y : Int) (h0 : -9223372036854775808 ≤ x) (h1 : x ≤ 9223372036854775807) : partZ x y = (bits .and .i64 x y == x) := by
  unfold partZ
  rw [Bool.eq_iff_iff, beq_iff_eq, beq_iff_eq, bits_andNot, bits_and, bv_zero, bv_self _ x h0 h1, bv_part]
theorem and_mask (n : Nat) (hn : n < 63) (x : Int) : bits .and .i64 x (2 ^ n - 1) = x % 2 ^ n := by
  have p1 : (2 : Nat) ^ n < 2 ^ 63 := Nat.pow_lt_pow_right (by omega) hn
  have p0 : 0 < (2 : Nat) ^ n := Nat.pow_pos (by omega)
  have hc : ((2 : Int) ^ n) = ((2 ^ n : Nat) : Int) := by rw [Int.natCast_pow]; rfl
  have h : (BitVec.ofInt 64 (2 ^ n - 1)).toNat = 2 ^ n - 1 := by
    rw [BitVec.toNat_ofInt, hc]; omega
  have key : (BitVec.ofInt 64 x &&& BitVec.ofInt 64 (2 ^ n - 1)).toNat = (x % ((2 ^ 64 : Nat) : Int)).toNat % 2 ^ n := by
    rw [BitVec.toNat_and, BitVec.toNat_ofInt, h, Nat.and_two_pow_sub_one_eq_mod]
  rw [bits_and, key, IntKind.wrap_i64, hc]
  have hd : ((2 ^ n : Nat) : Int) ∣ ((2 ^ 64 : Nat) : Int) := by
    rw [show 64 = n + (64 - n) by omega, Nat.pow_add, Int.natCast_mul]; exact Int.dvd_mul_right _ _
  have e : (((x % ((2 ^ 64 : Nat) : Int)).toNat % 2 ^ n : Nat) : Int) = x % ((2 ^ n : Nat) : Int) := by
    rw [Int.natCast_emod, Int.toNat_of_nonneg (Int.emod_nonneg _ (by decide)), Int.emod_emod_of_dvd _ hd]
  rw [e]
  have q0 := Int.emod_nonneg x (b := ((2 ^ n : Nat) : Int)) (by omega)
  have q1 := Int.emod_lt_of_pos x (b := ((2 ^ n : Nat) : Int)) (by omega)
  omega
theorem partZ_first (n : Nat) (hn : n ≤ 5) (x : Int) (h0 : -9223372036854775808 ≤ x) (h1 : x ≤ 9223372036854775807) : partZ x (2 ^ n - 1) = decide (0 ≤ x ∧ x ≤ 2 ^ n - 1) := by
  rw [partZ_eq x _ h0 h1, and_mask n (by omega), Bool.eq_iff_iff, beq_iff_eq, decide_eq_true_iff]
  have p0 : 0 < (2 : Nat) ^ n := Nat.pow_pos (by omega)
  have hc : ((2 : Int) ^ n) = ((2 ^ n : Nat) : Int) := by rw [Int.natCast_pow]; rfl
  rw [hc]
  constructor
  · intro h
    have q0 := Int.emod_nonneg x (b := ((2 ^ n : Nat) : Int)) (by omega)
    have q1 := Int.emod_lt_of_pos x (b := ((2 ^ n : Nat) : Int)) (by omega)
    omega
  · rintro ⟨a, b⟩; exact Int.emod_eq_of_lt a (by omega)
theorem partZ_31 (x : Int) (h0 : -9223372036854775808 ≤ x) (h1 : x ≤ 9223372036854775807) : partZ x 31 = valB x := partZ_first 5 (by omega) x h0 h1

theorem partOf_any (x y : Int) (w : World) :
    Calls Tryz.prog 43 #[.int .i64 x, .int .i64 y] w fun e w' => e = .returned (.bool (partZ x y)) ∧ w = w' := by
  go_enter Tryz.func43, Tryz.ntmps43
  go_wp2_with fail
  go_ret
  exact ⟨rfl, rfl⟩
theorem isValid_any (x : Int) (h0 : -9223372036854775808 ≤ x) (h1 : x ≤ 9223372036854775807) (w : World) :
    Calls Tryz.prog 70 #[.int .i64 x] w fun e w' => e = .returned (.bool (valB x)) ∧ w = w' := by
  go_enter Tryz.func70, Tryz.ntmps70
  go_wp2_with fail
  refine (partOf_any _ _ _).mono ?_
  rintro e w' ⟨rfl, rfl⟩
  go_wp2_with fail
  go_ret
  exact ⟨ret_b (partZ_31 x h0 h1).symm, rfl⟩
theorem colCount_any (n : Int) (w : World) :
    Calls Tryz.prog 39 #[.int .i64 n] w fun e w' => e = .returned (.bool (decide (0 ≤ n ∧ n ≤ 5))) ∧ w = w' := by
  by_cases h1 : 0 ≤ n <;> by_cases h2 : n ≤ 5
  all_goals
    go_enter Tryz.func39, Tryz.ntmps39
    go_wp2
    go_ret
    exact ⟨by simp [h1, h2], rfl⟩
theorem first_any (n : Int) (w : World) (h0 : 0 ≤ n) (h1 : n ≤ 5) :
    Calls Tryz.prog 25 #[.int .i64 n] w fun e w' => e = .returned (.int .i64 (2 ^ n.toNat - 1)) ∧ w = w' := by
  rcases (show n = 0 ∨ n = 1 ∨ n = 2 ∨ n = 3 ∨ n = 4 ∨ n = 5 by omega) with rfl | rfl | rfl | rfl | rfl | rfl
  all_goals
    go_enter Tryz.func25, Tryz.ntmps25
    go_wp2
    go_ret
    exact ⟨rfl, rfl⟩
/-- The number of ones. -/
theorem ones_any (X : Fin 32) (w : World) :
    Calls Tryz.prog 78 #[.int .u64 ((X.val : Nat) : Int)] w fun e w' => e = .returned (.int .i64 (cnt ((X.val : Nat) : Int) : Int)) ∧ w = w' := by
  go_enter Tryz.func78, Tryz.ntmps78
  go_wp2_with fail
  go_ret
  refine ⟨ret_int ?_, rfl⟩
  revert X
  decide +kernel
theorem onesCount_any (X : Nat) (h : X < 32) (w : World) :
    Calls Tryz.prog 62 #[.int .u64 (X : Int)] w fun e w' => e = .returned (.int .i64 (cnt (X : Int) : Int)) ∧ w = w' := by
  go_enter Tryz.func62, Tryz.ntmps62
  go_wp2_with fail
  refine (ones_any ⟨X, h⟩ _).mono ?_
  rintro e w' ⟨rfl, rfl⟩
  go_wp2_with fail
  go_ret
  exact ⟨rfl, rfl⟩
theorem size_any (X : Nat) (h : X < 32) (w : World) :
    Calls Tryz.prog 40 #[.int .i64 (X : Int)] w fun e w' => e = .returned (.int .i64 (cnt (X : Int) : Int)) ∧ w = w' := by
  go_enter Tryz.func40, Tryz.ntmps40
  go_wp2_with fail
  refine (onesCount_any X h _).mono ?_
  rintro e w' ⟨rfl, rfl⟩
  go_wp2_with fail
  go_ret
  exact ⟨rfl, rfl⟩
theorem has_any (X k : Nat) (hk : k ≤ 62) (w : World) :
    Calls Tryz.prog 73 #[.int .i64 (X : Int), .int .i64 (k : Int)] w fun e w' => e = .returned (.bool (bitB X k)) ∧ w = w' := by
  have hb : (bits BinOp.and IntKind.i64 ((X : Int) / 2 ^ k) 1 != 0) = bitB X k := by
    rw [← bit_test, i64_and_1, Bool.eq_iff_iff, bne_iff_ne, beq_iff_eq]; omega
  go_enter Tryz.func73, Tryz.ntmps73
  go_wp2_with fail
  go_ret
  exact ⟨rfl, rfl⟩
theorem implIsA_any (n x : Int) (h0 : -9223372036854775808 ≤ x) (h1 : x ≤ 9223372036854775807) (w : World) :
    Calls Tryz.prog 29 #[.int .i64 n, .int .i64 x] w fun e w' => e = .returned (.bool (isA n x)) ∧ Below w.heap.size w w' := by
  by_cases hn : 0 ≤ n ∧ n ≤ 5
  · have hd : decide (0 ≤ n ∧ n ≤ 5) = true := by simp [hn]
    have HZ : Hid (isA n x = partZ x (2 ^ n.toNat - 1)) := Lib.hid (by rw [partZ_first n.toNat (by omega) x h0 h1]; unfold isA; simp [hn])
    go_enter Tryz.func29, Tryz.ntmps29
    go_wp2_with fail
    refine (colCount_any _ _).mono ?_
    rintro e w' ⟨rfl, rfl⟩
    go_wp2_with fail
    refine (first_any _ _ hn.1 hn.2).mono ?_
    rintro e w' ⟨rfl, rfl⟩
    go_wp2_with fail
    refine (partOf_any _ _ _).mono ?_
    rintro e w' ⟨rfl, rfl⟩
    go_wp2_with fail
    go_ret
    exact ⟨ret_b HZ.out, Below.refl _ _⟩
  · have hd : decide (0 ≤ n ∧ n ≤ 5) = false := by simp only [hn, decide_false]
    go_enter Tryz.func29, Tryz.ntmps29
    go_wp2_with fail
    refine (colCount_any _ _).mono ?_
    rintro e w' ⟨rfl, rfl⟩
    go_wp2_with fail
    go_ret
    exact ⟨ret_b (by unfold isA; simp only [hn, false_and, decide_false]), Below.refl _ _⟩
end Go.Proofs.YtnbjcelfdppkcaaGreat
namespace Go.Proofs.YtnbjcelfdppkcaaGreat
open Go.RowKit

theorem implValue_any (x : Int) (w : World) :
    Calls Tryz.prog 84 #[.int .i64 x] w fun e w' => e = .returned (.bool (decide (0 ≤ x ∧ x ≤ 40))) ∧ w = w' := by
  by_cases h1 : 0 ≤ x <;> by_cases h2 : x ≤ 40
  all_goals
    go_enter Tryz.func84, Tryz.ntmps84
    go_wp2
    go_ret
    exact ⟨by simp [h1, h2], rfl⟩
theorem implCell_any (x : Int) (w : World) :
    Calls Tryz.prog 79 #[.int .i64 x] w fun e w' => e = .returned (.bool (cellOk x)) ∧ w = w' := by
  by_cases h1 : 0 ≤ x ∧ x ≤ 40
  · have HV := Lib.hid (implValue_any x w)
    rw [decide_eq_true h1] at HV
    go_enter Tryz.func79, Tryz.ntmps79
    go_wp2_with fail
    refine HV.out.mono ?_
    rintro e w' ⟨rfl, rfl⟩
    go_wp2_with fail
    go_ret
    exact ⟨ret_b (by unfold cellOk; simp; omega), rfl⟩
  · have HV := Lib.hid (implValue_any x w)
    rw [decide_eq_false h1] at HV
    have HN := Lib.hid h1
    clear h1
    by_cases h2 : x = -1
    · subst h2
      go_enter Tryz.func79, Tryz.ntmps79
      go_wp2_with fail
      refine HV.out.mono ?_
      rintro e w' ⟨rfl, rfl⟩
      go_wp2_with fail
      go_ret
      exact ⟨rfl, rfl⟩
    · have hx : (x == -1) = false := by simpa using h2
      have HN2 := Lib.hid h2
      clear h2
      go_enter Tryz.func79, Tryz.ntmps79
      go_wp2_with fail
      refine HV.out.mono ?_
      rintro e w' ⟨rfl, rfl⟩
      go_wp2_with fail
      go_ret
      exact ⟨ret_b (by unfold cellOk; have := HN.out; have := HN2.out; simp; omega), rfl⟩
set_option maxHeartbeats 800000 in
theorem implRow_any (v : Value) (r : List Int) (c : Int) (w : World) (hr : ReadI w v r) (hl : r.length ≤ 1048576) :
    Calls Tryz.prog 67 #[v, .int .i64 c] w fun e w' => e = .returned (.bool (rowOk c r)) ∧ w = w' := by
  obtain ⟨a, cap, rfl, ha⟩ := hr
  have HA := Lib.hid ha
  clear ha
  by_cases hc : (r.length : Int) = c
  · have hd : ((r.length : Int) != c) = false := by simp [hc]
    have HC := Lib.hid hc
    clear hc
    go_enter Tryz.func67, Tryz.ntmps67
    go_wp2_with fail
    go_loop [13] (fun iv => ∃ k : Nat, k ≤ r.length ∧ iv = .int .i64 (k : Int) ∧ Hid ((r.take k).all cellOk = true)) (fun iv => r.length - (intOf iv).toNat)
    case atStart => exact ⟨0, by omega, rfl, Lib.hid rfl⟩
    case round =>
      obtain ⟨k, hk, rfl, hall⟩ := hrel
      by_cases hlt : k < r.length
      · obtain ⟨x, rfl, hx⟩ := HA.out k hlt
        have z0 : (0 : Int) ≤ (k : Int) := by omega
        have z1 : (k : Int) < (r.length : Int) := by omega
        have HI := Lib.hid (implCell_any r[k] w)
        have HOK := Lib.hid (fun h => all_snoc (p := cellOk) hlt hall.out h)
        have HNO := Lib.hid (fun h => all_not (p := cellOk) hlt h)
        obtain ⟨y, hy⟩ : ∃ y : Int, r[k] = y := ⟨_, rfl⟩
        rw [hy] at hx HI HOK HNO
        clear hy
        cases hro : cellOk y with
        | true =>
          rw [hro] at HI
          have HX := Lib.hid (HOK.out hro)
          clear hro
          go_wp2_with fail
          refine HI.out.mono ?_
          rintro e w' ⟨rfl, rfl⟩
          go_wp2_with fail
          go_round
          case rel => exact ⟨k + 1, by omega, by go_num, HX⟩
          case measure => simp [intOf]; omega
        | false =>
          rw [hro] at HI
          have HX := Lib.hid (HNO.out hro)
          clear hro
          go_wp2_with fail
          refine HI.out.mono ?_
          rintro e w' ⟨rfl, rfl⟩
          go_wp2_with fail
          go_ret
          exact ⟨ret_b (by unfold rowOk; rw [HX.out]; rfl), rfl⟩
      · obtain rfl : k = r.length := by omega
        have HX : Hid (r.all cellOk = true) := Lib.hid (by have := hall.out; rwa [List.take_length] at this)
        go_wp2_with fail
        go_ret
        exact ⟨ret_b (by unfold rowOk; rw [HX.out, decide_eq_true HC.out]; rfl), rfl⟩
  · have hd : ((r.length : Int) != c) = true := by simpa using hc
    have HC := Lib.hid hc
    clear hc
    go_enter Tryz.func67, Tryz.ntmps67
    go_wp2_with fail
    go_ret
    exact ⟨ret_b (by unfold rowOk; rw [decide_eq_false HC.out]; simp), rfl⟩

set_option maxHeartbeats 1600000 in
theorem implIsTable_any (c : Int) (v : Value) (ll : List (List Int)) (w : World) (hr : ReadSS w v ll) (hl : ll.length ≤ 1048576) (ht : ∀ i, i < ll.length → (ll.getD i []).length ≤ 1048576) :
    Calls Tryz.prog 48 #[.agg #[.int .i64 c, v]] w fun e w' => e = .returned (.bool (isT c ll)) ∧ Below w.heap.size w w' := by
  obtain ⟨a, cap, rfl, ha⟩ := hr
  have HA := Lib.hid ha
  have HT := Lib.hid ht
  clear ha ht
  have hb1 := (Below.refl w.heap.size w).alloc (Nat.le_refl _) (.cells #[.int .i64 c, .slice a ll.length cap] 26)
  obtain ⟨w1, hw1⟩ : ∃ w1, w1 = w.alloc (.cells #[.int .i64 c, .slice a ll.length cap] 26) := ⟨_, rfl⟩
  have hbx := box2 (w := w) (wr := w1) (c := c) (v := .slice a ll.length cap) (T := 26) (by rw [hw1]; exact Below.refl _ _)
  have hb2 : Below w.heap.size w w1 := by rw [hw1]; exact hb1
  by_cases h1 : 1 ≤ c
  · have g1 : ¬ c < 1 := by omega
    by_cases h5 : c ≤ 5
    · have HCC := Lib.hid (fun w' => colCount_any c w')
      rw [show decide (0 ≤ c ∧ c ≤ 5) = true by simp; omega] at HCC
      by_cases h40 : ll.length ≤ 40
      · have g40 : ¬ (40 : Int) < (ll.length : Int) := by omega
        have HD : Hid ((decide (1 ≤ c ∧ c ≤ 5) && decide (ll.length ≤ 40)) = true) := Lib.hid (by simp; omega)
        clear h5
        go_enter Tryz.func48, Tryz.ntmps48
        go_wp2_with fail
        refine (HCC.out _).mono ?_
        rintro e w' ⟨rfl, rfl⟩
        go_wp2_with fail
        rw [← hw1]
        clear hw1 hb1
        go_loop [23] (fun iv => ∃ k : Nat, k ≤ ll.length ∧ iv = .int .i64 (k : Int) ∧ Hid ((ll.take k).all (rowOk c) = true)) (fun iv => ll.length - (intOf iv).toNat)
        case atStart => exact ⟨0, by omega, rfl, Lib.hid rfl⟩
        case round =>
          obtain ⟨k, hk, rfl, hall⟩ := hrel
          by_cases hlt : k < ll.length
          · obtain ⟨x, u, rfl, hx, hu⟩ := HA.out k hlt
            have hy := (hb2.cell (World.block_lt_of_cell? w _ hx)).trans hx
            have z0 : (0 : Int) ≤ (k : Int) := by omega
            have z1 : (k : Int) < (ll.length : Int) := by omega
            have hg : ll[k] = ll.getD k [] := by rw [List.getD_eq_getElem?_getD, List.getElem?_eq_getElem hlt]; rfl
            have HQ := Lib.hid (implRow_any u (ll.getD k []) c w1 (hu.kept hb2) (HT.out k hlt))
            have HOK := Lib.hid (fun h => all_snoc (p := rowOk c) hlt hall.out h)
            have HNO := Lib.hid (fun h => all_not (p := rowOk c) hlt h)
            rw [hg] at HOK HNO
            obtain ⟨r, hrr⟩ : ∃ r, ll.getD k [] = r := ⟨_, rfl⟩
            rw [hrr] at HQ HOK HNO
            clear hx hu hg hrr
            cases hro : rowOk c r with
            | true =>
              rw [hro] at HQ
              have HX := Lib.hid (HOK.out hro)
              clear hro
              go_wp2_with fail
              refine HQ.out.mono ?_
              rintro e w' ⟨rfl, rfl⟩
              go_wp2_with fail
              go_round
              case rel => exact ⟨k + 1, by omega, by go_num, HX⟩
              case measure => simp [intOf]; omega
            | false =>
              rw [hro] at HQ
              have HX := Lib.hid (HNO.out hro)
              clear hro
              go_wp2_with fail
              refine HQ.out.mono ?_
              rintro e w' ⟨rfl, rfl⟩
              go_wp2_with fail
              go_ret
              exact ⟨ret_b (by unfold isT; rw [HX.out]; rfl), hb2⟩
          · obtain rfl : k = ll.length := by omega
            have HX : Hid (ll.all (rowOk c) = true) := Lib.hid (by have := hall.out; rwa [List.take_length] at this)
            go_wp2_with fail
            go_ret
            exact ⟨ret_b (by unfold isT; rw [HX.out, HD.out]; rfl), hb2⟩
      · have g40 : (40 : Int) < (ll.length : Int) := by omega
        have HD : Hid (isT c ll = false) := Lib.hid (by unfold isT; rw [decide_eq_false h40]; simp)
        go_enter Tryz.func48, Tryz.ntmps48
        go_wp2_with fail
        refine (HCC.out _).mono ?_
        rintro e w' ⟨rfl, rfl⟩
        go_wp2_with fail
        go_ret
        exact ⟨ret_b HD.out, hb1⟩
    · have HCC := Lib.hid (fun w' => colCount_any c w')
      rw [show decide (0 ≤ c ∧ c ≤ 5) = false by simp; omega] at HCC
      have HD : Hid (isT c ll = false) := Lib.hid (by unfold isT; rw [decide_eq_false (p := 1 ≤ c ∧ c ≤ 5) (by omega)]; simp)
      go_enter Tryz.func48, Tryz.ntmps48
      go_wp2_with fail
      refine (HCC.out _).mono ?_
      rintro e w' ⟨rfl, rfl⟩
      go_wp2_with fail
      go_ret
      exact ⟨ret_b HD.out, hb1⟩
  · have g1 : c < 1 := by omega
    have HD : Hid (isT c ll = false) := Lib.hid (by unfold isT; rw [decide_eq_false (p := 1 ≤ c ∧ c ≤ 5) (by omega)]; simp)
    go_enter Tryz.func48, Tryz.ntmps48
    go_wp2_with fail
    go_ret
    exact ⟨ret_b HD.out, hb1⟩
end Go.Proofs.YtnbjcelfdppkcaaGreat
namespace Go.Proofs.YtnbjcelfdppkcaaGreat
open Go.RowKit

/-- The marks of a family. -/
def famC (f : Nat → Bool) : Array Value := ((List.range 32).map (fun i => Value.bool (f i))).toArray
theorem famC_size (f : Nat → Bool) : (famC f).size = 32 := by simp [famC]
theorem famC_get (f : Nat → Bool) (i : Nat) (h : i < 32) : (famC f)[i]? = some (.bool (f i)) := by
  simp [famC, h]
theorem famC_none : famC (fun _ => false) = Array.replicate 32 (.bool false) := by rfl
theorem famC_set (f : Nat → Bool) (i : Nat) (b : Bool) : (famC f).setIfInBounds i (.bool b) = famC (fun j => if j = i then b else f j) := by
  apply Array.ext_getElem?
  intro k
  rw [Array.getElem?_setIfInBounds]
  by_cases hk : k < 32
  · rw [famC_get _ k hk, famC_get _ k hk, famC_size]
    by_cases h : i = k
    · subst h; simp [hk]
    · have h' : ¬ k = i := fun e => h e.symm
      simp [h, h']
  · have e1 : (famC f)[k]? = none := by rw [Array.getElem?_eq_none]; rw [famC_size]; omega
    have e2 : (famC fun j => if j = i then b else f j)[k]? = none := by rw [Array.getElem?_eq_none]; rw [famC_size]; omega
    rw [e1, e2, famC_size]
    by_cases h : i = k
    · subst h; simp [hk]
    · simp [h]
theorem famC_congr {f g : Nat → Bool} (h : ∀ i, i < 32 → f i = g i) : famC f = famC g := by
  unfold famC
  congr 1
  apply List.map_congr_left
  intro i hi
  rw [h i (List.mem_range.mp hi)]
theorem famC_one (f : Nat → Bool) : (famC f).all (·.oneCell') = true := by
  simp [famC, Value.oneCell']
/-- The sets of a family in ascending order, those below n. -/
def lstTo (f : Nat → Bool) : Nat → List Int
  | 0 => []
  | n + 1 => if f n = true then lstTo f n ++ [(n : Int)] else lstTo f n
def lstF (f : Nat → Bool) : List Int := lstTo f 32
theorem lstTo_len (f : Nat → Bool) (n : Nat) : (lstTo f n).length ≤ n := by
  induction n with
  | zero => simp [lstTo]
  | succ n ih =>
    unfold lstTo
    split
    · simp; omega
    · omega
theorem famSize (f : Nat → Bool) : (Tryz.prog.info? 68).map (·.size) = some (famC f).size := by rw [famC_size]; kernel_rfl

theorem boolOne (w : World) : (sizeOf 4).run Tryz.prog w = .ok 1 w := by
  have h : (Tryz.prog.info? 4).map (·.size) = some 1 := by kernel_rfl
  cases hq : Tryz.prog.info? 4 with
  | none => simp [hq] at h
  | some i => simp only [hq, Option.map_some, Option.some.injEq] at h; simp [sizeOf, typeInfo, hq, h]
theorem run_index_fam (cs : Array Value) (f : Nat → Bool) (hcs : cs = famC f) (k : Nat) (hk : k < 32) (w : World) :
    (Instr.index 68 (.agg cs) (.int .i64 (k : Int))).run Tryz.prog w = .ok (.bool (f k)) w := by
  have h0 : 0 ≤ (k : Int) ∧ (k : Int) < 32 := by omega
  subst hcs
  have hp := run_part_plain (P := Tryz.prog) (e := 4) (by kernel_rfl) (w := w) (famC_get f k hk)
  simp [Instr.index, run_underlying Tryz.underlying68, asIntOf, Result.andThen, hp]
  intro h
  omega
set_option maxHeartbeats 1600000 in
theorem famList_any (f : Nat → Bool) (w : World) :
    Calls Tryz.prog 50 #[.agg (famC f)] w (RetI (lstF f) w) := by
  obtain ⟨i0, hi, hz0, hz1, hz2⟩ := info_parts info3j
  have HI : Hid (_ ∧ _ ∧ _ ∧ _) := Lib.hid ⟨hi, hz0, hz1, hz2⟩
  clear hi hz0 hz1 hz2
  obtain ⟨cs, hcs⟩ : ∃ cs, cs = famC f := ⟨_, rfl⟩
  rw [← hcs]
  have HC := Lib.hid hcs
  have HSZ := Lib.hid (famSize f)
  rw [← hcs] at HSZ
  clear hcs
  have HB1 := Lib.hid ((Below.refl w.heap.size w).alloc (Nat.le_refl _) (.cells cs 68))
  go_enter Tryz.func50, Tryz.ntmps50
  go_wp2_with (refine wpList_load_row rfl 68 _ rfl w.heap.size rfl 68 cs (0, 0) (.array 32 4) (heap_alloc_new w _) Tryz.underlying68 rfl HSZ.out ?_)
  go_loopw [3, 7] (fun ov iv wr => ∃ (k : Nat), k ≤ 32 ∧ iv = .int .i64 (k : Int) ∧ OwnI wr (w.heap.size + 1) ov (lstTo f k) ∧ Below (w.alloc (.cells cs 68)).heap.size (w.alloc (.cells cs 68)) wr) (fun _ iv _ => 32 - (intOf iv).toNat)
  case atStart => exact ⟨0, by omega, rfl, World.ownsRow_nil _ _ _ _, Below.refl _ _⟩
  case round =>
    obtain ⟨k, hk, rfl, ho, hb⟩ := hrel
    by_cases hlt : k < 32
    · have z0 : (0 : Int) ≤ (k : Int) := by omega
      have z1 : (k : Int) < 32 := by omega
      have HLL := Lib.hid (lstTo_len f k)
      have hidx := run_index_fam cs f HC.out k hlt
      have HS : Hid (lstTo f (k + 1) = if f k = true then lstTo f k ++ [(k : Int)] else lstTo f k) := Lib.hid rfl
      obtain ⟨l, hl⟩ : ∃ l, l = lstTo f k := ⟨_, rfl⟩
      rw [← hl] at ho HLL HS
      have HB := Lib.hid hb
      clear hl hb
      cases hf : f k with
      | true =>
        rw [hf] at hidx HS
        clear hf
        go_wp2_with (at_builtin; refine wpList_append_own _ rfl _ _ 29 rfl (w.heap.size + 1) 3 i0 (.int .i64 0) 1 8 Tryz.underlying29 HI.out.1 HI.out.2.1 HI.out.2.2.1 HI.out.2.2.2 rfl (by decide) _ _ _ rfl (World.ownsRow.alloc ho _) ⟨wr.heap.size, 0, none⟩ 1 1 [.int .i64 (k : Int)] rfl rfl (cell_one_new _ _ _) (one_i64 _) (by unfold maxLen; have := HLL.out; omega) (by have := HLL.out; omega) (by have := HB.out.size; simp at this; simp; omega) ?_; intro v' w1 hown' hgrow _; have ho' := OwnI.snoc hown'; have hb' := (HB.out.alloc HB.out.size (.cells #[.int .i64 (k : Int)] 3)).grown hgrow (by have := HB.out.size; simp at this; simp; omega) (fun k hk => by have := (OwnI.lt ho k hk).1; simp; omega); clear hown' hgrow)
        go_roundw
        case rel => exact ⟨k + 1, by omega, by go_num, by rw [HS.out]; exact ho', hb'⟩
        case measure => simp [intOf]; omega
      | false =>
        rw [hf] at hidx HS
        clear hf
        go_wp2_with fail
        go_roundw
        case rel => exact ⟨k + 1, by omega, by go_num, by rw [HS.out]; exact ho, HB.out⟩
        case measure => simp [intOf]; omega
    · obtain rfl : k = 32 := by omega
      have hbw := HB1.out.trans (hb.mono HB1.out.size)
      go_wp2_with fail
      go_ret
      exact ⟨_, rfl, ho.base (by omega), hbw⟩
end Go.Proofs.YtnbjcelfdppkcaaGreat
