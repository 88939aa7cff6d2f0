/- The model's chapter 4: AgreeSets, by contract. Conditions: as stated. -/
import Derived.Test.YtchdceglcjjggaaAgrC
namespace Go.Proofs.Ytchdceglcjjggaa
open Go.RowKit

/-- The list l0 with the agree sets of row i and the n rows behind it. -/
def agIn (c : Nat) (ll : List (List Int)) (m : Int) (i : Nat) (l0 : List Int) : Nat → List Int
  | 0 => l0
  | n + 1 => put4 (agIn c ll m i l0 n) (agrTo m (ll.getD i []) (ll.getD (i + 1 + n) []) c)
def agOut (c : Nat) (ll : List (List Int)) (m : Int) : Nat → List Int
  | 0 => []
  | i + 1 => agIn c ll m i (agOut c ll m i) (ll.length - (i + 1))
def agrS (c : Int) (ll : List (List Int)) (m : Int) : List Int := if fineT c ll m = true then agOut c.toNat ll m ll.length else []
theorem agIn_len (c : Nat) (ll : List (List Int)) (m : Int) (i : Nat) (l0 : List Int) (n : Nat) : (agIn c ll m i l0 n).length ≤ l0.length + n := by
  induction n with
  | zero => simp [agIn]
  | succ n ih => have := put4_len (agIn c ll m i l0 n) (agrTo m (ll.getD i []) (ll.getD (i + 1 + n) []) c); unfold agIn; omega
theorem agOut_len (c : Nat) (ll : List (List Int)) (m : Int) (i : Nat) (h : ll.length ≤ 40) : (agOut c ll m i).length ≤ 40 * i := by
  induction i with
  | zero => simp [agOut]
  | succ i ih => have := agIn_len c ll m i (agOut c ll m i) (ll.length - (i + 1)); unfold agOut; omega
theorem agrS_len (c : Int) (ll : List (List Int)) (m : Int) : (agrS c ll m).length ≤ 1600 := by
  unfold agrS
  split
  · rename_i h
    have hT : isT c ll = true := by unfold fineT at h; simp at h; exact h.1
    have h3 := (isT_bd hT).2.2
    have := agOut_len c.toNat ll m ll.length h3
    omega
  · simp
set_option maxHeartbeats 3200000 in
theorem agreeSets_any (c m : Int) (v : Value) (ll : List (List Int)) (w : World) (hr : ReadSS w v ll) (hl : ll.length ≤ 1048576) (ht : ∀ i, i < ll.length → (ll.getD i []).length ≤ 1048576) :
    Calls Try.prog 16 #[.agg #[.int .i64 c, v], .int .i64 m] w (RetI (agrS c ll m) w) := by
  have hb1 := (Below.refl w.heap.size w).alloc (Nat.le_refl _) (.cells #[.int .i64 c, v] 26)
  have HF := Lib.hid (fun w' (hb : Below w.heap.size w w') => l4Fine_any c m v ll w' (hr.kept hb) hl ht)
  have HR := Lib.hid (fun w' (hb : Below w.heap.size w w') => hr.kept hb)
  obtain ⟨a, cap, rfl, -⟩ := hr
  clear ht
  cases hf : fineT c ll m with
  | false =>
    have HE : Hid (agrS c ll m = []) := Lib.hid (by unfold agrS; rw [hf]; simp)
    rw [hf] at HF
    clear hf
    go_enter Try.func16, Try.ntmps16
    go_wp2_with fail
    refine wp_loop_rounds 1 ?_
    rw [rounds_succ]
    have hb2 := hb1.alloc hb1.size (.cells #[] 3)
    have hmk : OwnI ((w.alloc (.cells #[.int .i64 c, .slice a ll.length cap] 26)).alloc (.cells #[] 3)) w.heap.size (.slice (some ⟨w.heap.size + 1, 0, none⟩) 0 0) [] := by
      have h := OwnI.made (World.ownsRow_made (base := w.heap.size) (e := 3) (size := 1) (w.alloc (.cells #[.int .i64 c, .slice a ll.length cap] 26)) #[] 0 (by simp) (by unfold maxLen; omega) rfl)
      rwa [World.size_alloc] at h
    have hbb : Below (w.alloc (.cells #[.int .i64 c, .slice a ll.length cap] 26)).heap.size (w.alloc (.cells #[.int .i64 c, .slice a ll.length cap] 26)) ((w.alloc (.cells #[.int .i64 c, .slice a ll.length cap] 26)).alloc (.cells #[] 3)) := (Below.refl _ _).alloc (Nat.le_refl _) _
    obtain ⟨c0, c1⟩ := box2 hbb
    by_cases h0 : ll.length = 0
    · obtain rfl := List.eq_nil_of_length_eq_zero h0
      clear h0
      go_wp2_with fail
      go_ret
      exact ⟨_, rfl, by rw [HE.out]; exact hmk, hb2⟩
    · have hd2 : 0 < ll.length := by omega
      have hd : decide ((0 : Int) < (ll.length : Int)) = true := decide_eq_true (by omega)
      clear h0
      go_wp2_with fail
      refine (HF.out _ hb2).mono ?_
      rintro e w' ⟨rfl, b⟩
      go_wp2_with fail
      go_ret
      exact ⟨_, rfl, by rw [HE.out]; exact hmk.kept b (fun k hk => (OwnI.lt hmk k hk).2), hb2.trans (b.mono hb2.size)⟩
  | true =>
    have hT : isT c ll = true := by unfold fineT at hf; simp at hf; exact hf.1
    obtain ⟨hc1, hc5, hl40⟩ := isT_bd hT
    have HE : Hid (agrS c ll m = agOut c.toNat ll m ll.length) := Lib.hid (by unfold agrS; rw [if_pos hf])
    rw [hf] at HF
    have HA := Lib.hid (fun w' (hb : Below w.heap.size w w') I K hi hk => l4Agree_any c m I K _ ll w' (HR.out w' hb) hT hi hk)
    have hs1 : w.heap.size + 1 ≤ (w.alloc (.cells #[.int .i64 c, .slice a ll.length cap] 26)).heap.size := by simp
    clear hf hT
    go_enter Try.func16, Try.ntmps16
    go_wp2_with fail
    obtain ⟨w1, hw1⟩ : ∃ w1, w1 = w.alloc (.cells #[.int .i64 c, .slice a ll.length cap] 26) := ⟨_, rfl⟩
    have HBX : Hid (∀ wr, Below w1.heap.size w1 wr → wr.cell? ⟨w.heap.size, 0, none⟩ = some (.int .i64 c) ∧ wr.cell? ⟨w.heap.size, 1, none⟩ = some (.slice a ll.length cap)) := Lib.hid (fun wr hb => by rw [hw1] at hb; exact box2 hb)
    have he1 : w1.heap.size = w.heap.size + 1 := by rw [hw1, World.size_alloc]
    rw [← hw1] at hb1 hs1 ⊢
    have hmk1 : OwnI (w1.alloc (.cells #[] 3)) w.heap.size (.slice (some ⟨w.heap.size + 1, 0, none⟩) 0 0) [] := by
      have h := OwnI.made (World.ownsRow_made (base := w.heap.size) (e := 3) (size := 1) w1 #[] 0 (by omega) (by unfold maxLen; omega) rfl)
      rwa [he1] at h
    clear hw1 he1
    go_loopw [5, 6] (fun ov iv wr => ∃ i : Nat, i ≤ ll.length ∧ iv = .int .i64 (i : Int) ∧ OwnI wr w.heap.size ov (agOut c.toNat ll m i) ∧ Below w1.heap.size w1 wr) (fun _ iv _ => ll.length - (intOf iv).toNat)
    case atStart => exact ⟨0, by omega, rfl, hmk1, (Below.refl _ _).alloc (Nat.le_refl _) _⟩
    case round =>
      obtain ⟨i, hi, rfl, ho, hb⟩ := hrel
      have hbw := hb1.trans (hb.mono hb1.size)
      obtain ⟨c0, c1⟩ := HBX.out _ hb
      by_cases hlt : i < ll.length
      · have hd : decide ((i : Int) < (ll.length : Int)) = true := by simp; omega
        go_wp2_with fail
        refine (HF.out _ hbw).mono ?_
        rintro e w2 ⟨rfl, b2⟩
        have ho2 := ho.kept b2 (fun k hk => (OwnI.lt ho k hk).2)
        have hb2 := hb.trans (b2.mono hb.size)
        have hwi : IntKind.i64.wrap ((i : Int) + 1) = (i : Int) + 1 := by rw [IntKind.wrap_i64]; omega
        clear b2 ho hb hbw c0 c1 hd
        obtain ⟨d0, d1⟩ := HBX.out _ hb2
        go_wp2_with fail
        obtain ⟨wi, rfl⟩ : ∃ wi : World, wi = wr := ⟨_, rfl⟩
        obtain ⟨LI, hLI⟩ : ∃ LI, LI = agOut c.toNat ll m i := ⟨_, rfl⟩
        have HLI := Lib.hid hLI
        have hLl : LI.length ≤ 1600 := by rw [hLI]; have := agOut_len c.toNat ll m i hl40; omega
        rw [← hLI] at ho2
        clear hLI
        go_loopw [5, 7] (fun ov kv wr => ∃ n : Nat, i + 1 + n ≤ ll.length ∧ kv = .int .i64 ((i : Int) + 1 + (n : Int)) ∧ OwnI wr w.heap.size ov (agIn c.toNat ll m i LI n) ∧ Below w1.heap.size w1 wr) (fun _ kv _ => ll.length - (intOf kv).toNat)
        case atStart => exact ⟨0, by omega, by simp, ho2, hb2⟩
        case round =>
          clear ho2 hb2 d0 d1
          obtain ⟨n, hn, rfl, ho, hb⟩ := hrel
          have hbw := hb1.trans (hb.mono hb1.size)
          obtain ⟨c0, c1⟩ := HBX.out _ hb
          have HIN := Lib.hid (show agIn c.toNat ll m i LI (n + 1) = put4 (agIn c.toNat ll m i LI n) (agrTo m (ll.getD i []) (ll.getD (i + 1 + n) []) c.toNat) from rfl)
          have HEN : Hid (i + 1 + n = ll.length → agIn c.toNat ll m i LI n = agOut c.toNat ll m (i + 1)) := Lib.hid (fun h => by rw [HLI.out, agOut, show ll.length - (i + 1) = n by omega])
          have hil := agIn_len c.toNat ll m i LI n
          obtain ⟨lc, hlc⟩ : ∃ lc, lc = agIn c.toNat ll m i LI n := ⟨_, rfl⟩
          rw [← hlc] at ho HIN HEN hil
          clear hlc
          obtain ⟨k, hk⟩ : ∃ k : Nat, k = i + 1 + n := ⟨_, rfl⟩
          rw [show (i : Int) + 1 + (n : Int) = (k : Int) by omega]
          have HK := Lib.hid hk
          rw [← hk] at HIN HEN hn
          clear hk
          by_cases hlk : k < ll.length
          · have hd : decide ((k : Int) < (ll.length : Int)) = true := by simp; omega
            have hnl : n ≤ 40 := by have := HK.out; omega
            have HAK := Lib.hid (fun w' hb => HA.out w' hb i k hlt hlk)
            obtain ⟨A, hA⟩ : ∃ A, A = agrTo m (ll.getD i []) (ll.getD k []) c.toNat := ⟨_, rfl⟩
            rw [← hA] at HIN HAK
            clear hA
            go_wp2_with fail
            refine (HAK.out _ hbw).mono ?_
            rintro e w3 ⟨rfl, b3⟩
            have ho3 := ho.kept b3 (fun k hk => (OwnI.lt ho k hk).2)
            have hb3 := hb.trans (b3.mono hb.size)
            have hs3 := hb3.size
            clear b3 ho hb hbw c0 c1
            go_wp2_with fail
            refine (l4Put_any _ _ _ w.heap.size _ ho3 (by omega) (by omega)).mono ?_
            rintro e w4 ⟨v4, rfl, ho4, b4⟩
            have hb4 := hb3.trans (b4.mono hb3.size)
            clear b4 hb3 ho3
            go_wp2_with fail
            go_roundw
            case rel => exact ⟨n + 1, by have := HK.out; omega, by have := HK.out; go_num, by rw [HIN.out]; exact ho4, hb4⟩
            case measure => have := HK.out; simp [intOf]; omega
          · obtain rfl : k = ll.length := by omega
            have HEN2 := Lib.hid (HEN.out rfl)
            have hd : decide ((ll.length : Int) < (ll.length : Int)) = false := by simp
            go_wp2_with fail
            go_roundw
            case rel => exact ⟨i + 1, by omega, by go_num, by rw [← HEN2.out]; exact ho, hb⟩
            case measure => simp [intOf]; omega
      · obtain rfl : i = ll.length := by omega
        have hd2 : ¬ ll.length < ll.length := by omega
        go_wp2_with fail
        go_ret
        exact ⟨_, rfl, by rw [HE.out]; exact ho, hbw⟩
end Go.Proofs.Ytchdceglcjjggaa
