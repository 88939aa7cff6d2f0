/- Texts of this claim, merged: AgrD, AgrE, AscS, CovA, ClA. Conditions: as stated. -/
import Derived.Test.YtnbjcelfdppkcadGreatXz8
import Derived.BigQuiet
import Derived.Test.YtnbjcelfdppkcadGreatXz3
namespace Go.Proofs.YtnbjcelfdppkcadGreat
open Go.RowKit

/-- The list l0 with the agree sets of row i and the n rows behind it. -/
def agIn (c : Nat) (ll : List (List Int)) (m : Int) (i : Nat) (l0 : List Int) : Nat → List Int
  | 0 => l0
  | n + 1 => put4 (agIn c ll m i l0 n) (agrTo m (ll.getD i []) (ll.getD (i + 1 + n) []) c)
def agOut (c : Nat) (ll : List (List Int)) (m : Int) : Nat → List Int
  | 0 => []
  | i + 1 => agIn c ll m i (agOut c ll m i) (ll.length - (i + 1))
def agrS (c : Int) (ll : List (List Int)) (m : Int) : List Int := if fineT c ll m = true then agOut c.toNat ll m ll.length else []
theorem agIn_len (c : Nat) (ll : List (List Int)) (m : Int) (i : Nat) (l0 : List Int) (n : Nat) : (agIn c ll m i l0 n).length ≤ l0.length + n := by
  induction n with
  | zero => simp [agIn]
  | succ n ih => have := put4_len (agIn c ll m i l0 n) (agrTo m (ll.getD i []) (ll.getD (i + 1 + n) []) c); unfold agIn; omega
theorem agOut_len (c : Nat) (ll : List (List Int)) (m : Int) (i : Nat) (h : ll.length ≤ 40) : (agOut c ll m i).length ≤ 40 * i := by
  induction i with
  | zero => simp [agOut]
  | succ i ih => have := agIn_len c ll m i (agOut c ll m i) (ll.length - (i + 1)); unfold agOut; omega
theorem agrS_len (c : Int) (ll : List (List Int)) (m : Int) : (agrS c ll m).length ≤ 1600 := by
  unfold agrS
  split
  · rename_i h
    have hT : isT c ll = true := by unfold fineT at h; simp at h; exact h.1
    have h3 := (isT_bd hT).2.2
    have := agOut_len c.toNat ll m ll.length h3
    omega
  · simp
set_option maxHeartbeats 3200000 in
theorem agreeSets_any (c m : Int) (v : Value) (ll : List (List Int)) (w : World) (hr : ReadSS w v ll) (hl : ll.length ≤ 1048576) (ht : ∀ i, i < ll.length → (ll.getD i []).length ≤ 1048576) :
    Calls Tryz.prog 41 #[.agg #[.int .i64 c, v], .int .i64 m] w (RetI (agrS c ll m) w) := by
  have hb1 := (Below.refl w.heap.size w).alloc (Nat.le_refl _) (.cells #[.int .i64 c, v] 29)
  have HF := Lib.hid (fun w' (hb : Below w.heap.size w w') => l4Fine_any c m v ll w' (hr.kept hb) hl ht)
  have HR := Lib.hid (fun w' (hb : Below w.heap.size w w') => hr.kept hb)
  obtain ⟨a, cap, rfl, -⟩ := hr
  clear ht
  cases hf : fineT c ll m with
  | false =>
    have HE : Hid (agrS c ll m = []) := Lib.hid (by unfold agrS; rw [hf]; simp)
    rw [hf] at HF
    clear hf
    go_enter Tryz.func41, Tryz.ntmps41
    go_wp2_with fail
    refine wp_loop_rounds 1 ?_
    rw [rounds_succ]
    have hb2 := hb1.alloc hb1.size (.cells #[] 3)
    have hmk : OwnI ((w.alloc (.cells #[.int .i64 c, .slice a ll.length cap] 29)).alloc (.cells #[] 3)) w.heap.size (.slice (some ⟨w.heap.size + 1, 0, none⟩) 0 0) [] := by
      have h := OwnI.made (World.ownsRow_made (base := w.heap.size) (e := 3) (size := 1) (w.alloc (.cells #[.int .i64 c, .slice a ll.length cap] 29)) #[] 0 (by simp) (by unfold maxLen; omega) rfl)
      rwa [World.size_alloc] at h
    have hbb : Below (w.alloc (.cells #[.int .i64 c, .slice a ll.length cap] 29)).heap.size (w.alloc (.cells #[.int .i64 c, .slice a ll.length cap] 29)) ((w.alloc (.cells #[.int .i64 c, .slice a ll.length cap] 29)).alloc (.cells #[] 3)) := (Below.refl _ _).alloc (Nat.le_refl _) _
    obtain ⟨c0, c1⟩ := box2 hbb
    by_cases h0 : ll.length = 0
    · obtain rfl := List.eq_nil_of_length_eq_zero h0
      clear h0
      go_wp2_with fail
      go_ret
      exact ⟨_, rfl, by rw [HE.out]; exact hmk, hb2⟩
    · have hd2 : 0 < ll.length := by omega
      have hd : decide ((0 : Int) < (ll.length : Int)) = true := decide_eq_true (by omega)
      clear h0
      go_wp2_with fail
      refine (HF.out _ hb2).mono ?_
      rintro e w' ⟨rfl, b⟩
      go_wp2_with fail
      go_ret
      exact ⟨_, rfl, by rw [HE.out]; exact hmk.kept b (fun k hk => (OwnI.lt hmk k hk).2), hb2.trans (b.mono hb2.size)⟩
  | true =>
    have hT : isT c ll = true := by unfold fineT at hf; simp at hf; exact hf.1
    obtain ⟨hc1, hc5, hl40⟩ := isT_bd hT
    have HE : Hid (agrS c ll m = agOut c.toNat ll m ll.length) := Lib.hid (by unfold agrS; rw [if_pos hf])
    rw [hf] at HF
    have HA := Lib.hid (fun w' (hb : Below w.heap.size w w') I K hi hk => l4Agree_any c m I K _ ll w' (HR.out w' hb) hT hi hk)
    have hs1 : w.heap.size + 1 ≤ (w.alloc (.cells #[.int .i64 c, .slice a ll.length cap] 29)).heap.size := by simp
    clear hf hT
    go_enter Tryz.func41, Tryz.ntmps41
    go_wp2_with fail
    obtain ⟨w1, hw1⟩ : ∃ w1, w1 = w.alloc (.cells #[.int .i64 c, .slice a ll.length cap] 29) := ⟨_, rfl⟩
    have HBX : Hid (∀ wr, Below w1.heap.size w1 wr → wr.cell? ⟨w.heap.size, 0, none⟩ = some (.int .i64 c) ∧ wr.cell? ⟨w.heap.size, 1, none⟩ = some (.slice a ll.length cap)) := Lib.hid (fun wr hb => by rw [hw1] at hb; exact box2 hb)
    have he1 : w1.heap.size = w.heap.size + 1 := by rw [hw1, World.size_alloc]
    rw [← hw1] at hb1 hs1 ⊢
    have hmk1 : OwnI (w1.alloc (.cells #[] 3)) w.heap.size (.slice (some ⟨w.heap.size + 1, 0, none⟩) 0 0) [] := by
      have h := OwnI.made (World.ownsRow_made (base := w.heap.size) (e := 3) (size := 1) w1 #[] 0 (by omega) (by unfold maxLen; omega) rfl)
      rwa [he1] at h
    clear hw1 he1
    go_loopw [5, 6] (fun ov iv wr => ∃ i : Nat, i ≤ ll.length ∧ iv = .int .i64 (i : Int) ∧ OwnI wr w.heap.size ov (agOut c.toNat ll m i) ∧ Below w1.heap.size w1 wr) (fun _ iv _ => ll.length - (intOf iv).toNat)
    case atStart => exact ⟨0, by omega, rfl, hmk1, (Below.refl _ _).alloc (Nat.le_refl _) _⟩
    case round =>
      obtain ⟨i, hi, rfl, ho, hb⟩ := hrel
      have hbw := hb1.trans (hb.mono hb1.size)
      obtain ⟨c0, c1⟩ := HBX.out _ hb
      by_cases hlt : i < ll.length
      · have hd : decide ((i : Int) < (ll.length : Int)) = true := by simp; omega
        go_wp2_with fail
        refine (HF.out _ hbw).mono ?_
        rintro e w2 ⟨rfl, b2⟩
        have ho2 := ho.kept b2 (fun k hk => (OwnI.lt ho k hk).2)
        have hb2 := hb.trans (b2.mono hb.size)
        have hwi : IntKind.i64.wrap ((i : Int) + 1) = (i : Int) + 1 := by rw [IntKind.wrap_i64]; omega
        clear b2 ho hb hbw c0 c1 hd
        obtain ⟨d0, d1⟩ := HBX.out _ hb2
        go_wp2_with fail
        obtain ⟨wi, rfl⟩ : ∃ wi : World, wi = wr := ⟨_, rfl⟩
        obtain ⟨LI, hLI⟩ : ∃ LI, LI = agOut c.toNat ll m i := ⟨_, rfl⟩
        have HLI := Lib.hid hLI
        have hLl : LI.length ≤ 1600 := by rw [hLI]; have := agOut_len c.toNat ll m i hl40; omega
        rw [← hLI] at ho2
        clear hLI
        go_loopw [5, 7] (fun ov kv wr => ∃ n : Nat, i + 1 + n ≤ ll.length ∧ kv = .int .i64 ((i : Int) + 1 + (n : Int)) ∧ OwnI wr w.heap.size ov (agIn c.toNat ll m i LI n) ∧ Below w1.heap.size w1 wr) (fun _ kv _ => ll.length - (intOf kv).toNat)
        case atStart => exact ⟨0, by omega, by simp, ho2, hb2⟩
        case round =>
          clear ho2 hb2 d0 d1
          obtain ⟨n, hn, rfl, ho, hb⟩ := hrel
          have hbw := hb1.trans (hb.mono hb1.size)
          obtain ⟨c0, c1⟩ := HBX.out _ hb
          have HIN := Lib.hid (show agIn c.toNat ll m i LI (n + 1) = put4 (agIn c.toNat ll m i LI n) (agrTo m (ll.getD i []) (ll.getD (i + 1 + n) []) c.toNat) from rfl)
          have HEN : Hid (i + 1 + n = ll.length → agIn c.toNat ll m i LI n = agOut c.toNat ll m (i + 1)) := Lib.hid (fun h => by rw [HLI.out, agOut, show ll.length - (i + 1) = n by omega])
          have hil := agIn_len c.toNat ll m i LI n
          obtain ⟨lc, hlc⟩ : ∃ lc, lc = agIn c.toNat ll m i LI n := ⟨_, rfl⟩
          rw [← hlc] at ho HIN HEN hil
          clear hlc
          obtain ⟨k, hk⟩ : ∃ k : Nat, k = i + 1 + n := ⟨_, rfl⟩
          rw [show (i : Int) + 1 + (n : Int) = (k : Int) by omega]
          have HK := Lib.hid hk
          rw [← hk] at HIN HEN hn
          clear hk
          by_cases hlk : k < ll.length
          · have hd : decide ((k : Int) < (ll.length : Int)) = true := by simp; omega
            have hnl : n ≤ 40 := by have := HK.out; omega
            have HAK := Lib.hid (fun w' hb => HA.out w' hb i k hlt hlk)
            obtain ⟨A, hA⟩ : ∃ A, A = agrTo m (ll.getD i []) (ll.getD k []) c.toNat := ⟨_, rfl⟩
            rw [← hA] at HIN HAK
            clear hA
            go_wp2_with fail
            refine (HAK.out _ hbw).mono ?_
            rintro e w3 ⟨rfl, b3⟩
            have ho3 := ho.kept b3 (fun k hk => (OwnI.lt ho k hk).2)
            have hb3 := hb.trans (b3.mono hb.size)
            have hs3 := hb3.size
            clear b3 ho hb hbw c0 c1
            go_wp2_with fail
            refine (l4Put_any _ _ _ w.heap.size _ ho3 (by omega) (by omega)).mono ?_
            rintro e w4 ⟨v4, rfl, ho4, b4⟩
            have hb4 := hb3.trans (b4.mono hb3.size)
            clear b4 hb3 ho3
            go_wp2_with fail
            go_roundw
            case rel => exact ⟨n + 1, by have := HK.out; omega, by have := HK.out; go_num, by rw [HIN.out]; exact ho4, hb4⟩
            case measure => have := HK.out; simp [intOf]; omega
          · obtain rfl : k = ll.length := by omega
            have HEN2 := Lib.hid (HEN.out rfl)
            have hd : decide ((ll.length : Int) < (ll.length : Int)) = false := by simp
            go_wp2_with fail
            go_roundw
            case rel => exact ⟨i + 1, by omega, by go_num, by rw [← HEN2.out]; exact ho, hb⟩
            case measure => simp [intOf]; omega
      · obtain rfl : i = ll.length := by omega
        have hd2 : ¬ ll.length < ll.length := by omega
        go_wp2_with fail
        go_ret
        exact ⟨_, rfl, by rw [HE.out]; exact ho, hbw⟩
end Go.Proofs.YtnbjcelfdppkcadGreat
namespace Go.Proofs.YtnbjcelfdppkcadGreat
open Go.RowKit

def setsOk (l : List Int) : Bool := l.all valB && decide (l.length ≤ 100)
/-- Whether x is kept against the first k elements. -/
def topK (l : List Int) (x : Int) : Nat → Bool
  | 0 => true
  | k + 1 => topK l x k && (l.getD k 0 == x || bits .and .i64 x (l.getD k 0) != x)
def mxTo (l : List Int) : Nat → List Int
  | 0 => []
  | i + 1 => if topK l (l.getD i 0) l.length = true then put4 (mxTo l i) (l.getD i 0) else mxTo l i
def maxS (l : List Int) : List Int := if setsOk l = true then mxTo l l.length else []
theorem mxTo_len (l : List Int) (i : Nat) : (mxTo l i).length ≤ i := by
  induction i with
  | zero => simp [mxTo]
  | succ i ih => have := put4_len (mxTo l i) (l.getD i 0); unfold mxTo; split <;> omega
/-- Whether x is kept against the first k elements. -/
def lowK (l : List Int) (x : Int) : Nat → Bool
  | 0 => true
  | k + 1 => lowK l x k && (l.getD k 0 == x || bits .and .i64 x (l.getD k 0) != (l.getD k 0))
def mnTo (l : List Int) : Nat → List Int
  | 0 => []
  | i + 1 => if lowK l (l.getD i 0) l.length = true then put4 (mnTo l i) (l.getD i 0) else mnTo l i
def minS (l : List Int) : List Int := if setsOk l = true then mnTo l l.length else []
theorem mnTo_len (l : List Int) (i : Nat) : (mnTo l i).length ≤ i := by
  induction i with
  | zero => simp [mnTo]
  | succ i ih => have := put4_len (mnTo l i) (l.getD i 0); unfold mnTo; split <;> omega
end Go.Proofs.YtnbjcelfdppkcadGreat
namespace Go.Proofs.YtnbjcelfdppkcadGreat
open Go.RowKit

/-- In order, no two equal. -/
def AscI (l : List Int) : Prop := l.Pairwise fun a b => a < b
theorem ascI_unique : ∀ (a b : List Int), AscI a → AscI b → (∀ x, x ∈ a ↔ x ∈ b) → a = b
  | [], [], _, _, _ => rfl
  | [], y :: bs, _, _, h => by have := (h y).2 (by simp); cases this
  | x :: s1, [], _, _, h => by have := (h x).1 (by simp); cases this
  | x :: s1, y :: bs, ha, hb, h => by
    unfold AscI at ha hb
    rw [List.pairwise_cons] at ha hb
    have hxy : x = y := by
      have h1 := (h x).1 (by simp)
      have h2 := (h y).2 (by simp)
      rw [List.mem_cons] at h1 h2
      rcases h1 with h1 | h1
      · exact h1
      · rcases h2 with h2 | h2
        · exact h2.symm
        · have e1 := ha.1 y h2
          have e2 := hb.1 x h1
          omega
    subst hxy
    have hx1 : ∀ z ∈ s1, z ≠ x := fun z hz e => by have := ha.1 z hz; omega
    have hx2 : ∀ z ∈ bs, z ≠ x := fun z hz e => by have := hb.1 z hz; omega
    rw [ascI_unique s1 bs ha.2 hb.2 fun z => ⟨fun hz => by
      have := (h z).1 (by simp [hz])
      rw [List.mem_cons] at this
      exact this.resolve_left (hx1 z hz), fun hz => by
      have := (h z).2 (by simp [hz])
      rw [List.mem_cons] at this
      exact this.resolve_left (hx2 z hz)⟩]
theorem ascI_getD {l : List Int} (h : AscI l) {i j : Nat} (hij : i < j) (hj : j < l.length) : l.getD i 0 < l.getD j 0 := by
  rw [← get_getD l i (by omega), ← get_getD l j hj]
  exact List.pairwise_iff_getElem.mp h i j (by omega) hj hij
theorem ascI_snoc {l : List Int} {x : Int} (h : AscI l) (hx : ∀ y ∈ l, y < x) : AscI (l ++ [x]) := by
  unfold AscI
  rw [List.pairwise_append]
  exact ⟨h, List.pairwise_singleton _ _, fun a ha b hb => by rw [List.mem_singleton] at hb; subst hb; exact hx a ha⟩
theorem mem_getD {l : List Int} {y : Int} : y ∈ l ↔ ∃ t, t < l.length ∧ y = l.getD t 0 := by
  constructor
  · intro h
    obtain ⟨t, ht, rfl⟩ := List.mem_iff_getElem.mp h
    exact ⟨t, ht, get_getD l t ht⟩
  · rintro ⟨t, ht, rfl⟩
    rw [← get_getD l t ht]; exact List.getElem_mem ht
theorem take_snocD (l : List Int) (k : Nat) (h : k < l.length) : l.take (k + 1) = l.take k ++ [l.getD k 0] := by
  rw [List.take_succ_eq_append_getElem h, get_getD l k h]
theorem putTo_mem (l : List Int) (x y : Int) : ∀ k, k ≤ l.length → (y ∈ (putTo l x k).2 ↔ y ∈ l.take k ∨ ((putTo l x k).1 = true ∧ y = x))
  | 0, _ => by simp [putTo]
  | k + 1, hk => by
    have ih := putTo_mem l x y k (by omega)
    rw [take_snocD l k (by omega)]
    unfold putTo
    split
    · rename_i h
      rw [h.1] at ih
      have ih' : y ∈ (putTo l x k).2 ↔ y ∈ l.take k := by rw [ih]; simp
      rw [List.mem_append, List.mem_append, List.mem_singleton, List.mem_singleton, List.mem_append, List.mem_singleton, ih']
      constructor
      · rintro ((h1 | h1) | h1)
        · exact Or.inl (Or.inl h1)
        · exact Or.inr ⟨rfl, h1⟩
        · exact Or.inl (Or.inr h1)
      · rintro ((h1 | h1) | ⟨-, h1⟩)
        · exact Or.inl (Or.inl h1)
        · exact Or.inr h1
        · exact Or.inl (Or.inr h1)
    · simp only [List.mem_append, List.mem_singleton, ih]
      constructor
      · rintro ((h1 | h1) | h1)
        · exact Or.inl (Or.inl h1)
        · exact Or.inr h1
        · exact Or.inl (Or.inr h1)
      · rintro ((h1 | h1) | h1)
        · exact Or.inl (Or.inl h1)
        · exact Or.inr h1
        · exact Or.inl (Or.inr h1)
theorem putTo_asc {l : List Int} (hl : AscI l) (x : Int) (hx : x ∉ l) : ∀ k, k ≤ l.length →
    AscI (putTo l x k).2 ∧ (∀ y ∈ (putTo l x k).2, ∀ i, k ≤ i → i < l.length → y < l.getD i 0) ∧ ((putTo l x k).1 = false → ∀ y ∈ (putTo l x k).2, y < x)
  | 0, _ => ⟨List.Pairwise.nil, fun y hy => by simp [putTo] at hy, fun _ y hy => by simp [putTo] at hy⟩
  | k + 1, hk => by
    obtain ⟨h1, h2, h3⟩ := putTo_asc hl x hx k (by omega)
    have hz : ∀ i, k + 1 ≤ i → i < l.length → l.getD k 0 < l.getD i 0 := fun i h h' => ascI_getD hl (by omega) h'
    have hne : l.getD k 0 ≠ x := fun e => hx (by rw [← e]; exact mem_getD.mpr ⟨k, by omega, rfl⟩)
    unfold putTo
    split
    · rename_i h
      refine ⟨ascI_snoc (ascI_snoc h1 (h3 h.1)) fun y hy => ?_, fun y hy i hi hil => ?_, fun e => by cases e⟩
      · rw [List.mem_append, List.mem_singleton] at hy
        rcases hy with hy | rfl
        · exact h2 y hy k (Nat.le_refl _) (by omega)
        · exact h.2
      · rw [List.mem_append, List.mem_append, List.mem_singleton, List.mem_singleton] at hy
        have := hz i hi hil
        rcases hy with (hy | rfl) | rfl
        · exact h2 y hy i (by omega) hil
        · omega
        · exact this
    · rename_i h
      refine ⟨ascI_snoc h1 fun y hy => h2 y hy k (Nat.le_refl _) (by omega), fun y hy i hi hil => ?_, fun e y hy => ?_⟩
      · rw [List.mem_append, List.mem_singleton] at hy
        rcases hy with hy | rfl
        · exact h2 y hy i (by omega) hil
        · exact hz i hi hil
      · rw [List.mem_append, List.mem_singleton] at hy
        rcases hy with hy | rfl
        · exact h3 e y hy
        · have : ¬ x < l.getD k 0 := fun e' => h ⟨e, e'⟩
          omega
theorem put4_mem (l : List Int) (x y : Int) : y ∈ put4 l x ↔ y = x ∨ y ∈ l := by
  have h := putTo_mem l x y l.length (Nat.le_refl _)
  rw [List.take_length] at h
  unfold put4
  split
  · rename_i hx
    constructor
    · exact Or.inr
    · rintro (rfl | h')
      · exact hx
      · exact h'
  · split
    · rename_i h1
      rw [h, h1]; simp
      constructor
      · rintro (h' | h')
        · exact Or.inr h'
        · exact Or.inl h'
      · rintro (h' | h')
        · exact Or.inr h'
        · exact Or.inl h'
    · rename_i h1
      rw [List.mem_append, h, List.mem_singleton]
      simp [h1]
      constructor
      · rintro (h' | h')
        · exact Or.inr h'
        · exact Or.inl h'
      · rintro (h' | h')
        · exact Or.inr h'
        · exact Or.inl h'
theorem put4_asc {l : List Int} (hl : AscI l) (x : Int) : AscI (put4 l x) := by
  unfold put4
  split
  · exact hl
  · rename_i hx
    obtain ⟨h1, -, h3⟩ := putTo_asc hl x hx l.length (Nat.le_refl _)
    split
    · exact h1
    · rename_i h
      exact ascI_snoc h1 (h3 (by simpa using h))
theorem topK_iff (l : List Int) (x : Int) : ∀ n, (topK l x n = true ↔ ∀ t, t < n → (l.getD t 0 == x || bits .and .i64 x (l.getD t 0) != x) = true)
  | 0 => by simp [topK]
  | n + 1 => by
    have ih := topK_iff l x n
    unfold topK
    rw [Bool.and_eq_true, ih]
    constructor
    · rintro ⟨h1, h2⟩ t ht
      by_cases e : t = n
      · subst e; exact h2
      · exact h1 t (by omega)
    · intro h
      exact ⟨fun t ht => h t (by omega), h n (by omega)⟩
theorem lowK_iff (l : List Int) (x : Int) : ∀ n, (lowK l x n = true ↔ ∀ t, t < n → (l.getD t 0 == x || bits .and .i64 x (l.getD t 0) != (l.getD t 0)) = true)
  | 0 => by simp [lowK]
  | n + 1 => by
    have ih := lowK_iff l x n
    unfold lowK
    rw [Bool.and_eq_true, ih]
    constructor
    · rintro ⟨h1, h2⟩ t ht
      by_cases e : t = n
      · subst e; exact h2
      · exact h1 t (by omega)
    · intro h
      exact ⟨fun t ht => h t (by omega), h n (by omega)⟩
theorem mxTo_mem (l : List Int) (y : Int) : ∀ i, (y ∈ mxTo l i ↔ ∃ t, t < i ∧ y = l.getD t 0 ∧ topK l y l.length = true)
  | 0 => by simp [mxTo]
  | i + 1 => by
    have ih := mxTo_mem l y i
    unfold mxTo
    split
    · rename_i h
      rw [put4_mem, ih]
      constructor
      · rintro (rfl | ⟨t, h1, h2, h3⟩)
        · exact ⟨i, by omega, rfl, h⟩
        · exact ⟨t, by omega, h2, h3⟩
      · rintro ⟨t, h1, h2, h3⟩
        by_cases e : t = i
        · subst e; exact Or.inl h2
        · exact Or.inr ⟨t, by omega, h2, h3⟩
    · rename_i h
      rw [ih]
      constructor
      · rintro ⟨t, h1, h2, h3⟩
        exact ⟨t, by omega, h2, h3⟩
      · rintro ⟨t, h1, h2, h3⟩
        by_cases e : t = i
        · subst e; rw [h2] at h3; exact (h h3).elim
        · exact ⟨t, by omega, h2, h3⟩
theorem mnTo_mem (l : List Int) (y : Int) : ∀ i, (y ∈ mnTo l i ↔ ∃ t, t < i ∧ y = l.getD t 0 ∧ lowK l y l.length = true)
  | 0 => by simp [mnTo]
  | i + 1 => by
    have ih := mnTo_mem l y i
    unfold mnTo
    split
    · rename_i h
      rw [put4_mem, ih]
      constructor
      · rintro (rfl | ⟨t, h1, h2, h3⟩)
        · exact ⟨i, by omega, rfl, h⟩
        · exact ⟨t, by omega, h2, h3⟩
      · rintro ⟨t, h1, h2, h3⟩
        by_cases e : t = i
        · subst e; exact Or.inl h2
        · exact Or.inr ⟨t, by omega, h2, h3⟩
    · rename_i h
      rw [ih]
      constructor
      · rintro ⟨t, h1, h2, h3⟩
        exact ⟨t, by omega, h2, h3⟩
      · rintro ⟨t, h1, h2, h3⟩
        by_cases e : t = i
        · subst e; rw [h2] at h3; exact (h h3).elim
        · exact ⟨t, by omega, h2, h3⟩
theorem mxTo_asc (l : List Int) : ∀ i, AscI (mxTo l i)
  | 0 => List.Pairwise.nil
  | i + 1 => by
    unfold mxTo
    split
    · exact put4_asc (mxTo_asc l i) _
    · exact mxTo_asc l i
theorem mnTo_asc (l : List Int) : ∀ i, AscI (mnTo l i)
  | 0 => List.Pairwise.nil
  | i + 1 => by
    unfold mnTo
    split
    · exact put4_asc (mnTo_asc l i) _
    · exact mnTo_asc l i
end Go.Proofs.YtnbjcelfdppkcadGreat
namespace Go.Proofs.YtnbjcelfdppkcadGreat
open Go.RowKit

/-- a is part of b. -/
def subN (a b : Nat) : Bool := (a &&& b) == a
theorem subN_bit (a b : Fin 32) : subN a.val b.val = true ↔ ∀ j : Fin 5, bitB a.val j.val = true → bitB b.val j.val = true := by
  have h : ∀ a b : Fin 32, (subN a.val b.val = true ↔ ∀ j : Fin 5, bitB a.val j.val = true → bitB b.val j.val = true) := by decide +kernel
  exact h a b
theorem subN_refl (a : Nat) : subN a a = true := by unfold subN; simp
theorem subN_trans {a b c : Nat} (h1 : subN a b = true) (h2 : subN b c = true) : subN a c = true := by
  unfold subN at *
  rw [beq_iff_eq] at *
  rw [← h1, Nat.and_assoc, h2]
/-- Without one of its columns. -/
theorem drop_fin : ∀ (a : Fin 32) (j : Fin 5), bitB a.val j.val = true → 2 ^ j.val ≤ a.val ∧ subN (a.val - 2 ^ j.val) a.val = true ∧ bitB (a.val - 2 ^ j.val) j.val = false := by decide +kernel
/-- With one more. -/
theorem more_fin : ∀ (a : Fin 32) (j : Fin 5), bitB a.val j.val = false → a.val + 2 ^ j.val < 32 ∧ subN a.val (a.val + 2 ^ j.val) = true ∧ bitB (a.val + 2 ^ j.val) j.val = true ∧ ∀ i : Fin 5, i ≠ j → bitB (a.val + 2 ^ j.val) i.val = bitB a.val i.val := by decide +kernel
theorem below_fin : ∀ (a b : Fin 32), subN a.val b.val = true → a ≠ b → ∃ j : Fin 5, bitB b.val j.val = true ∧ bitB a.val j.val = false ∧ subN a.val (b.val - 2 ^ j.val) = true ∧ subN (a.val + 2 ^ j.val) b.val = true := by decide +kernel
theorem bit_lt : ∀ (C : Fin 6) (a : Fin 32) (j : Fin 5), a.val < 2 ^ C.val → bitB a.val j.val = true → j.val < C.val := by decide +kernel
theorem more_lt : ∀ (C : Fin 6) (a : Fin 32) (j : Fin 5), a.val < 2 ^ C.val → j.val < C.val → bitB a.val j.val = false → a.val + 2 ^ j.val < 2 ^ C.val := by decide +kernel

/-- Closed upwards among the sets below n. -/
def UpN (n : Nat) (f : Nat → Prop) : Prop := ∀ a b, a < n → b < n → subN a b = true → f a → f b
/-- It is in f, and without any of its columns it is not. -/
def LeastN (f : Nat → Prop) (y : Nat) : Prop := f y ∧ ∀ j, j < 5 → bitB y j = true → ¬ f (y - 2 ^ j)
theorem least_ex {f : Nat → Prop} : ∀ (x : Nat), x < 32 → f x → ∃ y, y < 32 ∧ y ≤ x ∧ subN y x = true ∧ LeastN f y := by
  intro x
  induction x using Nat.strongRecOn with
  | ind x ih =>
    intro hx hf
    by_cases h : ∃ j, j < 5 ∧ bitB x j = true ∧ f (x - 2 ^ j)
    · obtain ⟨j, hj, hb, hfj⟩ := h
      obtain ⟨d1, d2, -⟩ := drop_fin ⟨x, hx⟩ ⟨j, hj⟩ hb
      have hp : 0 < 2 ^ j := Nat.pow_pos (by decide)
      simp only at d1 d2
      obtain ⟨y, y1, y2, y3, y4⟩ := ih (x - 2 ^ j) (by omega) (by omega) hfj
      exact ⟨y, y1, by omega, subN_trans y3 d2, y4⟩
    · exact ⟨x, hx, Nat.le_refl _, subN_refl _, hf, fun j hj hb hfj => h ⟨j, hj, hb, hfj⟩⟩
/-- Among closed families: the least ones have no smaller one at all. -/
theorem least_iff {f : Nat → Prop} {n : Nat} (hn : n ≤ 32) (hu : UpN n f) {y : Nat} (hy : y < n) : LeastN f y ↔ f y ∧ ∀ z, z < n → f z → subN z y = true → z = y := by
  constructor
  · rintro ⟨h1, h2⟩
    refine ⟨h1, fun z hz hfz hs => Classical.byContradiction fun hne => ?_⟩
    obtain ⟨j, j1, -, j3, -⟩ := below_fin ⟨z, by omega⟩ ⟨y, by omega⟩ hs (fun e => hne (Fin.mk.inj e))
    exact h2 j.val j.isLt j1 (hu z _ hz (Nat.lt_of_le_of_lt (Nat.sub_le _ _) hy) j3 hfz)
  · rintro ⟨h1, h2⟩
    refine ⟨h1, fun j hj hb hf => ?_⟩
    obtain ⟨d1, d2, d3⟩ := drop_fin ⟨y, by omega⟩ ⟨j, hj⟩ hb
    have hp : 0 < 2 ^ j := Nat.pow_pos (by decide)
    simp only at d1 d2 d3
    have := h2 (y - 2 ^ j) (by omega) hf d2
    omega
/-- Outside of f, without column R, and with any other column more it is inside. -/
def MostN (C R : Nat) (f : Nat → Prop) (y : Nat) : Prop := ¬ f y ∧ bitB y R = false ∧ ∀ j, j < C → j ≠ R → bitB y j = false → f (y + 2 ^ j)
theorem most_ex {C R : Nat} (hC : C ≤ 5) {f : Nat → Prop} (hR : R < C) : ∀ (k x : Nat), 32 - x ≤ k → x < 2 ^ C → bitB x R = false → ¬ f x → ∃ y, y < 2 ^ C ∧ subN x y = true ∧ MostN C R f y := by
  intro k
  have h32 : 2 ^ C ≤ 32 := Nat.le_trans (Nat.pow_le_pow_right (by omega) hC) (by decide)
  induction k with
  | zero => intro x hk hx; omega
  | succ k ih =>
    intro x hk hx hr hf
    by_cases h : ∃ j, j < C ∧ j ≠ R ∧ bitB x j = false ∧ ¬ f (x + 2 ^ j)
    · obtain ⟨j, hj, hne, hb, hfj⟩ := h
      obtain ⟨d1, d2, d3, d4⟩ := more_fin ⟨x, by omega⟩ ⟨j, by omega⟩ hb
      have hl := more_lt ⟨C, by omega⟩ ⟨x, by omega⟩ ⟨j, by omega⟩ hx hj hb
      have hp : 0 < 2 ^ j := Nat.pow_pos (by decide)
      have d5 := d4 ⟨R, by omega⟩ (fun e => hne (Fin.mk.inj e).symm)
      simp only at d1 d2 d3 d5 hl
      obtain ⟨y, y1, y2, y3⟩ := ih (x + 2 ^ j) (by omega) hl (by rw [d5]; exact hr) hfj
      exact ⟨y, y1, subN_trans d2 y2, y3⟩
    · exact ⟨x, hx, subN_refl _, hf, hr, fun j hj hne hb => Classical.byContradiction fun hfj => h ⟨j, hj, hne, hb, hfj⟩⟩
theorem most_iff {C R : Nat} (hC : C ≤ 5) {f : Nat → Prop} (hu : UpN (2 ^ C) f) (hR : R < C) {y : Nat} (hy : y < 2 ^ C) : MostN C R f y ↔ ¬ f y ∧ bitB y R = false ∧ ∀ z, z < 2 ^ C → ¬ f z → bitB z R = false → subN y z = true → z = y := by
  have h32 : 2 ^ C ≤ 32 := Nat.le_trans (Nat.pow_le_pow_right (by omega) hC) (by decide)
  constructor
  · rintro ⟨h1, h2, h3⟩
    refine ⟨h1, h2, fun z hz hfz hr hs => Classical.byContradiction fun hne => ?_⟩
    obtain ⟨j, j1, j2, -, j4⟩ := below_fin ⟨y, by omega⟩ ⟨z, by omega⟩ hs (fun e => hne (Fin.mk.inj e).symm)
    have hjC := bit_lt ⟨C, by omega⟩ ⟨z, by omega⟩ j hz j1
    have hl := more_lt ⟨C, by omega⟩ ⟨y, by omega⟩ j hy hjC j2
    simp only at hjC hl j1 j2 j4
    have hjR : j.val ≠ R := fun e => by rw [e, hr] at j1; cases j1
    exact hfz (hu _ z hl hz j4 (h3 j.val hjC hjR j2))
  · rintro ⟨h1, h2, h3⟩
    refine ⟨h1, h2, fun j hj hne hb => Classical.byContradiction fun hf => ?_⟩
    obtain ⟨d1, d2, d3, d4⟩ := more_fin ⟨y, by omega⟩ ⟨j, by omega⟩ hb
    have hl := more_lt ⟨C, by omega⟩ ⟨y, by omega⟩ ⟨j, by omega⟩ hy hj hb
    have hp : 0 < 2 ^ j := Nat.pow_pos (by decide)
    have d5 := d4 ⟨R, by omega⟩ (fun e => hne (Fin.mk.inj e).symm)
    simp only at d2 d5 hl
    have := h3 _ hl hf (by rw [d5]; exact h2) d2
    omega
/-- A dependency that holds goes on holding with a greater left side. -/
theorem holds_up {c : Nat} {ll : List (List Int)} {m : Int} {R : Nat} (hc : c ≤ 5) : UpN (2 ^ c) (fun L => HoldsAll c ll m L R) := by
  intro a b ha hb hs h i k hik hk hag
  refine h i k hik hk ?_
  rw [agB_iff c ll m _ _ _ hc hb] at hag
  rw [agB_iff c ll m _ _ _ hc ha]
  have h32 : 2 ^ c ≤ 32 := Nat.le_trans (Nat.pow_le_pow_right (by omega) hc) (by decide)
  intro j hj hbj
  exact hag j hj ((subN_bit ⟨a, by omega⟩ ⟨b, by omega⟩).1 hs ⟨j, by omega⟩ hbj)
end Go.Proofs.YtnbjcelfdppkcadGreat
namespace Go.Proofs.YtnbjcelfdppkcadGreat
open Go.RowKit

/-- Dependencies that are valid, and not too many. -/
def arD (n : Int) (l : List (Int × Int)) : Bool := l.all (fun d => depB n d.1 d.2) && (decide (1 ≤ n ∧ n ≤ 5) && decide (l.length ≤ 20))
/-- x with R. -/
def orN (x R : Nat) : Nat := if bitB x R = true then x else x + 2 ^ R
theorem orN_or : ∀ (x : Fin 32) (R : Fin 5), bits .or .i64 ((x.val : Nat) : Int) (IntKind.i64.wrap (2 ^ R.val)) = ((orN x.val R.val : Nat) : Int) ∧ bits .or .i64 ((x.val : Nat) : Int) (2 ^ R.val) = ((orN x.val R.val : Nat) : Int) := by decide +kernel
theorem orN_fin : ∀ (x : Fin 32) (R : Fin 5), orN x.val R.val < 32 ∧ subN x.val (orN x.val R.val) = true ∧ bitB (orN x.val R.val) R.val = true := by decide +kernel
theorem orN_least : ∀ (x y : Fin 32) (R : Fin 5), subN x.val y.val = true → bitB y.val R.val = true → subN (orN x.val R.val) y.val = true := by decide +kernel
theorem orN_low : ∀ (C : Fin 6) (x : Fin 32) (R : Fin 5), x.val < 2 ^ C.val → R.val < C.val → orN x.val R.val < 2 ^ C.val := by decide +kernel
theorem sub_and : ∀ a b : Fin 32, (bits .and .i64 ((a.val : Nat) : Int) ((b.val : Nat) : Int) == ((a.val : Nat) : Int)) = subN a.val b.val := by decide +kernel
theorem subN_anti' {a b : Nat} (h1 : subN a b = true) (h2 : subN b a = true) : a = b := by
  unfold subN at *
  rw [beq_iff_eq] at *
  rw [← h1, Nat.and_comm]
  exact h2
theorem subN_lt {a b : Nat} (h : subN a b = true) (hb : b < 32) : a < 32 := by
  unfold subN at h
  rw [beq_iff_eq] at h
  have := Nat.and_le_right (n := a) (m := b)
  omega
/-- Dependencies of at most five columns. -/
def DepsN (C : Nat) (l : List (Int × Int)) : Prop := ∀ d ∈ l, ∃ L R : Nat, d = ((L : Int), (R : Int)) ∧ L < 2 ^ C ∧ R < C
theorem arD_n {n : Int} {l : List (Int × Int)} (h : arD n l = true) : ∃ C : Nat, n = (C : Int) ∧ 1 ≤ C ∧ C ≤ 5 ∧ l.length ≤ 20 ∧ DepsN C l := by
  unfold arD at h
  rw [Bool.and_eq_true, Bool.and_eq_true, decide_eq_true_iff, decide_eq_true_iff, List.all_eq_true] at h
  obtain ⟨h1, h2, h3⟩ := h
  obtain ⟨C, rfl⟩ : ∃ C : Nat, n = (C : Int) := ⟨n.toNat, by omega⟩
  refine ⟨C, rfl, by omega, by omega, h3, fun d hd => ?_⟩
  obtain ⟨-, k1, k2, k3⟩ := depB_iff.1 (h1 d hd)
  unfold isA at k1
  rw [decide_eq_true_iff, show ((C : Int)).toNat = C from rfl] at k1
  have hz : ((2 ^ C : Nat) : Int) = (2 : Int) ^ C := by rw [Int.natCast_pow]; rfl
  refine ⟨d.1.toNat, d.2.toNat, ?_, by omega, by omega⟩
  rw [show ((d.1.toNat : Nat) : Int) = d.1 by omega, show ((d.2.toNat : Nat) : Int) = d.2 by omega]
/-- One dependency applied. -/
def stN (x : Nat) (d : Int × Int) : Nat := if subN d.1.toNat x = true then orN x d.2.toNat else x
/-- The first i dependencies applied. -/
def rdTo (l : List (Int × Int)) (x : Nat) : Nat → Nat
  | 0 => x
  | i + 1 => stN (rdTo l x i) (l.getD i (0, 0))
/-- So many rounds. -/
def cloTo (l : List (Int × Int)) (x : Nat) : Nat → Nat
  | 0 => x
  | k + 1 => rdTo l (cloTo l x k) l.length
def clo (l : List (Int × Int)) (x : Nat) : Nat := cloTo l x 6
def ClosedN (l : List (Int × Int)) (x : Nat) : Prop := ∀ d ∈ l, subN d.1.toNat x = true → bitB x d.2.toNat = true
def clB (l : List (Int × Int)) (x : Nat) : Bool := l.all fun d => !subN d.1.toNat x || bitB x d.2.toNat
theorem clB_iff (l : List (Int × Int)) (x : Nat) : clB l x = true ↔ ClosedN l x := by
  unfold clB ClosedN
  rw [List.all_eq_true]
  refine forall_congr' fun d => forall_congr' fun _ => ?_
  cases subN d.1.toNat x <;> cases bitB x d.2.toNat <;> simp
theorem memD {l : List (Int × Int)} {i : Nat} (h : i < l.length) : l.getD i (0, 0) ∈ l := by
  rw [List.getD_eq_getElem?_getD, List.getElem?_eq_getElem h]; exact List.getElem_mem h
section
variable {C : Nat} {l : List (Int × Int)} (hC : C ≤ 5) (hl : DepsN C l)
include hC hl
theorem stN_facts {x : Nat} (hx : x < 32) {d : Int × Int} (hd : d ∈ l) : stN x d < 32 ∧ subN x (stN x d) = true ∧ (x < 2 ^ C → stN x d < 2 ^ C) ∧ (∀ y, y < 32 → subN x y = true → ClosedN l y → subN (stN x d) y = true) ∧ (stN x d = x → subN d.1.toNat x = true → bitB x d.2.toNat = true) := by
  obtain ⟨L, R, e, hL, hR⟩ := hl d hd
  have h1 := orN_fin ⟨x, hx⟩ ⟨R, by omega⟩
  have h2 := orN_low ⟨C, by omega⟩ ⟨x, hx⟩ ⟨R, by omega⟩
  simp only at h1 h2
  have eR : d.2.toNat = R := by rw [e]; rfl
  unfold stN
  rw [eR]
  split
  · rename_i hs
    refine ⟨h1.1, h1.2.1, fun h => h2 h hR, fun y hy hxy hc => ?_, fun he _ => ?_⟩
    · have hb := hc d hd (subN_trans hs hxy)
      rw [eR] at hb
      exact orN_least ⟨x, hx⟩ ⟨y, hy⟩ ⟨R, by omega⟩ hxy hb
    · rw [← he]; exact h1.2.2
  · rename_i hs
    exact ⟨hx, subN_refl _, fun h => h, fun _ _ h _ => h, fun _ h => absurd h hs⟩
theorem rdTo_facts {x : Nat} (hx : x < 32) : ∀ i, i ≤ l.length → rdTo l x i < 32 ∧ subN x (rdTo l x i) = true ∧ (x < 2 ^ C → rdTo l x i < 2 ^ C) ∧ ∀ y, y < 32 → subN x y = true → ClosedN l y → subN (rdTo l x i) y = true
  | 0, _ => ⟨hx, subN_refl _, fun h => h, fun _ _ h _ => h⟩
  | i + 1, hi => by
    obtain ⟨a1, a2, a3, a4⟩ := rdTo_facts hx i (by omega)
    obtain ⟨b1, b2, b3, b4, -⟩ := stN_facts hC hl a1 (memD (l := l) (i := i) (by omega))
    exact ⟨b1, subN_trans a2 b2, fun h => b3 (a3 h), fun y hy hxy hc => b4 y hy (a4 y hy hxy hc) hc⟩
theorem rdTo_up {x : Nat} (hx : x < 32) (i : Nat) : ∀ j, i ≤ j → j ≤ l.length → subN (rdTo l x i) (rdTo l x j) = true
  | 0, h, _ => by rw [show i = 0 by omega]; exact subN_refl _
  | j + 1, h, hj => by
    by_cases e : i = j + 1
    · rw [e]; exact subN_refl _
    · exact subN_trans (rdTo_up hx i j (by omega) (by omega)) (stN_facts hC hl (rdTo_facts hC hl hx j (by omega)).1 (memD (l := l) (i := j) (by omega))).2.1
theorem rd_still {x : Nat} (hx : x < 32) (h : rdTo l x l.length = x) : ClosedN l x := by
  intro d hd hs
  obtain ⟨i, hi, rfl⟩ := List.getElem_of_mem hd
  have e : ∀ j, j ≤ l.length → rdTo l x j = x := fun j hj => by
    have h1 := (rdTo_facts hC hl hx j hj).2.1
    have h2 := rdTo_up hC hl hx j l.length hj (Nat.le_refl _)
    rw [h] at h2
    exact subN_anti' h2 h1
  have h1 := e (i + 1) (by omega)
  have h0 := e i (by omega)
  have hg : l.getD i (0, 0) = l[i] := by rw [List.getD_eq_getElem?_getD, List.getElem?_eq_getElem hi]; rfl
  have h2 : stN x l[i] = x := by
    have h3 : rdTo l x (i + 1) = stN (rdTo l x i) (l.getD i (0, 0)) := rfl
    rw [h0, hg, h1] at h3
    exact h3.symm
  exact (stN_facts hC hl hx hd).2.2.2.2 h2 hs
theorem rd_id {x : Nat} (hx : x < 32) (h : ClosedN l x) (i : Nat) (hi : i ≤ l.length) : rdTo l x i = x := by
  obtain ⟨-, a2, -, a4⟩ := rdTo_facts hC hl hx i hi
  exact subN_anti' (a4 x hx (subN_refl _) h) a2
theorem cloTo_facts {x : Nat} (hx : x < 32) : ∀ k, cloTo l x k < 32 ∧ subN x (cloTo l x k) = true ∧ (x < 2 ^ C → cloTo l x k < 2 ^ C) ∧ ∀ y, y < 32 → subN x y = true → ClosedN l y → subN (cloTo l x k) y = true
  | 0 => ⟨hx, subN_refl _, fun h => h, fun _ _ h _ => h⟩
  | k + 1 => by
    obtain ⟨a1, a2, a3, a4⟩ := cloTo_facts hx k
    obtain ⟨b1, b2, b3, b4⟩ := rdTo_facts hC hl a1 l.length (Nat.le_refl _)
    exact ⟨b1, subN_trans a2 b2, fun h => b3 (a3 h), fun y hy hxy hc => b4 y hy (a4 y hy hxy hc) hc⟩
end
/-- How many columns. -/
def popN (x : Nat) : Nat := ((List.range 5).filter (bitB x)).length
theorem popN_le (x : Nat) : popN x ≤ 5 := Nat.le_trans (List.length_filter_le _ _) (by simp)
theorem popN_up : ∀ a b : Fin 32, subN a.val b.val = true → a ≠ b → popN a.val + 1 ≤ popN b.val := by decide +kernel
section
variable {C : Nat} {l : List (Int × Int)} (hC : C ≤ 5) (hl : DepsN C l)
include hC hl
theorem cloTo_grow {x : Nat} (hx : x < 32) : ∀ k, ClosedN l (cloTo l x k) ∨ k ≤ popN (cloTo l x k)
  | 0 => .inr (Nat.zero_le _)
  | k + 1 => by
    obtain ⟨a1, -⟩ := cloTo_facts hC hl hx k
    obtain ⟨b1, b2, -⟩ := rdTo_facts hC hl a1 l.length (Nat.le_refl _)
    have e : cloTo l x (k + 1) = rdTo l (cloTo l x k) l.length := rfl
    rw [e]
    by_cases h : rdTo l (cloTo l x k) l.length = cloTo l x k
    · rw [h]; exact .inl (rd_still hC hl a1 h)
    · rcases cloTo_grow hx k with hc | hc
      · exact absurd (rd_id hC hl a1 hc l.length (Nat.le_refl _)) h
      · have := popN_up ⟨cloTo l x k, a1⟩ ⟨_, b1⟩ b2 (fun e => h (congrArg Fin.val e).symm)
        exact .inr (by simp only at this; omega)
/-- The closure: the least closed set above x. -/
theorem clo_spec {x : Nat} (hx : x < 32) : clo l x < 32 ∧ subN x (clo l x) = true ∧ (x < 2 ^ C → clo l x < 2 ^ C) ∧ ClosedN l (clo l x) ∧ ∀ y, y < 32 → subN x y = true → ClosedN l y → subN (clo l x) y = true := by
  obtain ⟨a1, a2, a3, a4⟩ := cloTo_facts hC hl hx 6
  refine ⟨a1, a2, a3, ?_, a4⟩
  rcases cloTo_grow hC hl hx 6 with h | h
  · exact h
  · have := popN_le (cloTo l x 6)
    omega
/-- Whatever is closed, above x, and below every closed set above x, is the closure. -/
theorem clo_unique {x y : Nat} (hx : x < 32) (hy : y < 32) (h1 : subN x y = true) (h2 : ClosedN l y) (h3 : ∀ z, z < 32 → subN x z = true → ClosedN l z → subN y z = true) : y = clo l x := by
  obtain ⟨a1, a2, -, a3, a4⟩ := clo_spec hC hl hx
  exact subN_anti' (h3 _ a1 a2 a3) (a4 y hy h1 h2)
theorem clo_id {x : Nat} (hx : x < 32) : clo l x = x ↔ ClosedN l x := by
  constructor
  · intro h
    have := (clo_spec hC hl hx).2.2.2.1
    rwa [h] at this
  · intro h
    exact (clo_unique hC hl hx hx (subN_refl _) h fun z _ hz _ => hz).symm
theorem clo_cl {x : Nat} (hx : x < 32) : (clo l x == x) = clB l x := by
  rw [Bool.eq_iff_iff, beq_iff_eq, clB_iff, clo_id hC hl hx]
end
end Go.Proofs.YtnbjcelfdppkcadGreat
