/- The model's chapter 4: AgreeOf and AgreeSets, by contract. Conditions: as stated. -/
import Derived.Test.YtchdceglcjjggaaAgrB
namespace Go.Proofs.Ytchdceglcjjggaa
open Go.RowKit

def agrOf (c : Int) (ll : List (List Int)) (m i k : Int) : Int := if fineT c ll m = true ∧ (0 ≤ i ∧ i ≤ ll.length - 1) ∧ (0 ≤ k ∧ k ≤ ll.length - 1) then agrTo m (ll.getD i.toNat []) (ll.getD k.toNat []) c.toNat else 0
set_option maxHeartbeats 1600000 in
theorem agreeOf_any (c m i k : Int) (v : Value) (ll : List (List Int)) (w : World) (hr : ReadSS w v ll) (hl : ll.length ≤ 1048576) (ht : ∀ i, i < ll.length → (ll.getD i []).length ≤ 1048576) :
    Calls Try.prog 30 #[.agg #[.int .i64 c, v], .int .i64 m, .int .i64 i, .int .i64 k] w fun e w' => e = .returned (.int .i64 (agrOf c ll m i k)) ∧ Below w.heap.size w w' := by
  have hb1 := (Below.refl w.heap.size w).alloc (Nat.le_refl _) (.cells #[.int .i64 c, v] 26)
  have HF := Lib.hid (l4Fine_any c m v ll (w.alloc (.cells #[.int .i64 c, v] 26)) (hr.kept hb1) hl ht)
  have HR := Lib.hid (fun w' (hb : Below w.heap.size w w') => hr.kept hb)
  obtain ⟨a, cap, rfl, -⟩ := hr
  have hwl : IntKind.i64.wrap ((ll.length : Int) - 1) = (ll.length : Int) - 1 := by rw [IntKind.wrap_i64]; omega
  have HW := Lib.hid hwl
  have HN := Lib.hid (fun w' => in_any i 0 ((ll.length : Int) - 1) w')
  have HK := Lib.hid (fun w' => in_any k 0 ((ll.length : Int) - 1) w')
  cases hf : fineT c ll m with
  | false =>
    have HE : Hid (agrOf c ll m i k = 0) := Lib.hid (by unfold agrOf; rw [hf]; simp)
    rw [hf] at HF
    clear hf hwl
    go_enter Try.func30, Try.ntmps30
    go_wp2_with fail
    refine HF.out.mono ?_
    rintro e w' ⟨rfl, b⟩
    have hb2 := hb1.trans (b.mono hb1.size)
    go_wp2_with fail
    go_ret
    exact ⟨by rw [HE.out]; rfl, hb2⟩
  | true =>
    rw [hf] at HF
    have hT : isT c ll = true := by unfold fineT at hf; simp at hf; exact hf.1
    by_cases hi : 0 ≤ i ∧ i ≤ (ll.length : Int) - 1
    · rw [decide_eq_true hi] at HN
      by_cases hk : 0 ≤ k ∧ k ≤ (ll.length : Int) - 1
      · rw [decide_eq_true hk] at HK
        have HE : Hid (agrOf c ll m i k = agrTo m (ll.getD i.toNat []) (ll.getD k.toNat []) c.toNat) := Lib.hid (by unfold agrOf; rw [if_pos ⟨hf, hi, hk⟩])
        obtain ⟨I, rfl⟩ : ∃ I : Nat, i = (I : Int) := ⟨i.toNat, by omega⟩
        obtain ⟨K, rfl⟩ : ∃ K : Nat, k = (K : Int) := ⟨k.toNat, by omega⟩
        have HA := Lib.hid (fun w' (hb : Below w.heap.size w w') => l4Agree_any c m I K _ ll w' (HR.out w' hb) hT (by omega) (by omega))
        clear hf hT hi hk
        go_enter Try.func30, Try.ntmps30
        go_wp2_with fail
        refine HF.out.mono ?_
        rintro e w' ⟨rfl, b⟩
        obtain ⟨c0, c1⟩ := box2 b
        have hb2 := hb1.trans (b.mono hb1.size)
        clear b
        go_wp2_with fail
        refine (HN.out _).mono ?_
        rintro e w'' ⟨rfl, rfl⟩
        go_wp2_with fail
        refine (HK.out _).mono ?_
        rintro e w'' ⟨rfl, rfl⟩
        go_wp2_with fail
        refine (HA.out _ hb2).mono ?_
        rintro e w3 ⟨rfl, b3⟩
        have hb3 := hb2.trans (b3.mono hb2.size)
        go_wp2_with fail
        go_ret
        exact ⟨by rw [HE.out]; rfl, hb3⟩
      · rw [decide_eq_false hk] at HK
        have HE : Hid (agrOf c ll m i k = 0) := Lib.hid (by unfold agrOf; rw [if_neg (fun h => hk h.2.2)])
        clear hf hT hi hk
        go_enter Try.func30, Try.ntmps30
        go_wp2_with fail
        refine HF.out.mono ?_
        rintro e w' ⟨rfl, b⟩
        obtain ⟨c0, c1⟩ := box2 b
        have hb2 := hb1.trans (b.mono hb1.size)
        clear b
        go_wp2_with fail
        refine (HN.out _).mono ?_
        rintro e w'' ⟨rfl, rfl⟩
        go_wp2_with fail
        refine (HK.out _).mono ?_
        rintro e w'' ⟨rfl, rfl⟩
        go_wp2_with fail
        go_ret
        exact ⟨by rw [HE.out]; rfl, hb2⟩
    · rw [decide_eq_false hi] at HN
      have HE : Hid (agrOf c ll m i k = 0) := Lib.hid (by unfold agrOf; rw [if_neg (fun h => hi h.2.1)])
      clear hf hT hi
      go_enter Try.func30, Try.ntmps30
      go_wp2_with fail
      refine HF.out.mono ?_
      rintro e w' ⟨rfl, b⟩
      obtain ⟨c0, c1⟩ := box2 b
      have hb2 := hb1.trans (b.mono hb1.size)
      clear b
      go_wp2_with fail
      refine (HN.out _).mono ?_
      rintro e w'' ⟨rfl, rfl⟩
      go_wp2_with fail
      go_ret
      exact ⟨by rw [HE.out]; rfl, hb2⟩
end Go.Proofs.Ytchdceglcjjggaa
