/- The program's AgreeOf, by contract. Conditions: as stated. -/
import Derived.Test.YtchdceglcjjggaaImG
import Derived.Test.YtchdceglcjjggaaImH
import Derived.Test.YtchdceglcjjggaaAgrC
namespace Go.Proofs.Ytchdceglcjjggaa
open Go.RowKit

theorem modeOk_or {m : Int} (h : modeOk m = true) : m = 0 ∨ m = 1 := by simpa [modeOk] using h
theorem atRowB_iff {c i : Int} {ll : List (List Int)} : atRowB c ll i = true ↔ isT c ll = true ∧ 0 ≤ i ∧ i ≤ (ll.length : Int) - 1 := by simp [atRowB]
set_option maxHeartbeats 1600000 in
theorem implAgreeOf_any (c m i k : Int) (v : Value) (ll : List (List Int)) (w : World) (hr : ReadSS w v ll) (hl : ll.length ≤ 1048576) (ht : ∀ i, i < ll.length → (ll.getD i []).length ≤ 1048576) :
    Calls Try.prog 20 #[.agg #[.int .i64 c, v], .int .i64 m, .int .i64 i, .int .i64 k] w fun e w' => e = .returned (.int .i64 (agrOf c ll m i k)) ∧ Below w.heap.size w w' := by
  have hb1 := (Below.refl w.heap.size w).alloc (Nat.le_refl _) (.cells #[.int .i64 c, v] 26)
  have HO := Lib.hid (eqOf_any m)
  have HI := Lib.hid (fun w' (hb : Below w.heap.size w w') => hasRow_any c i v ll w' (hr.kept hb) hl ht)
  have HK := Lib.hid (fun w' (hb : Below w.heap.size w w') => hasRow_any c k v ll w' (hr.kept hb) hl ht)
  have HR := Lib.hid (fun w' (hb : Below w.heap.size w w') => hr.kept hb)
  have HB1 := Lib.hid hb1
  obtain ⟨a, cap, rfl, -⟩ := hr
  obtain ⟨F, hF⟩ : ∃ F, eqFn m = F := ⟨_, rfl⟩
  cases hm : modeOk m with
  | false =>
    have HE : Hid (agrOf c ll m i k = 0) := Lib.hid (by unfold agrOf fineT; rw [hm]; simp)
    rw [hm, hF] at HO
    clear hm hF hb1
    go_enter Try.func20, Try.ntmps20
    go_wp2_with fail
    refine (HO.out _).mono ?_
    rintro e w' ⟨rfl, rfl⟩
    go_wp2_with fail
    go_ret
    exact ⟨by rw [HE.out]; rfl, HB1.out⟩
  | true =>
    have hmm := modeOk_or hm
    rw [hm, hF] at HO
    cases hi : atRowB c ll i with
    | false =>
      have HE : Hid (agrOf c ll m i k = 0) := Lib.hid (by
        unfold agrOf fineT; rw [hm, if_neg]; intro h
        have := atRowB_iff.mpr ⟨by simpa using h.1, h.2.1.1, h.2.1.2⟩
        rw [hi] at this; cases this)
      rw [hi] at HI
      clear hm hF hmm hi hb1
      go_enter Try.func20, Try.ntmps20
      go_wp2_with fail
      refine (HO.out _).mono ?_
      rintro e w' ⟨rfl, rfl⟩
      go_wp2_with fail
      refine (HI.out _ HB1.out).mono ?_
      rintro e w' ⟨rfl, b⟩
      have hb2 := HB1.out.trans (b.mono HB1.out.size)
      clear b
      go_wp2_with fail
      go_ret
      exact ⟨by rw [HE.out]; rfl, hb2⟩
    | true =>
      rw [hi] at HI
      cases hk : atRowB c ll k with
      | false =>
        have HE : Hid (agrOf c ll m i k = 0) := Lib.hid (by
          unfold agrOf fineT; rw [hm, if_neg]; intro h
          have := atRowB_iff.mpr ⟨by simpa using h.1, h.2.2.1, h.2.2.2⟩
          rw [hk] at this; cases this)
        rw [hk] at HK
        clear hm hF hmm hi hk hb1
        go_enter Try.func20, Try.ntmps20
        go_wp2_with fail
        refine (HO.out _).mono ?_
        rintro e w' ⟨rfl, rfl⟩
        go_wp2_with fail
        refine (HI.out _ HB1.out).mono ?_
        rintro e w' ⟨rfl, b⟩
        obtain ⟨c0, c1⟩ := box2 b
        have hb2 := HB1.out.trans (b.mono HB1.out.size)
        clear b
        go_wp2_with fail
        refine (HK.out _ hb2).mono ?_
        rintro e w' ⟨rfl, b⟩
        have hb3 := hb2.trans (b.mono hb2.size)
        clear b
        go_wp2_with fail
        go_ret
        exact ⟨by rw [HE.out]; rfl, hb3⟩
      | true =>
        rw [hk] at HK
        obtain ⟨hT, i0, i1⟩ := atRowB_iff.mp hi
        obtain ⟨-, k0, k1⟩ := atRowB_iff.mp hk
        obtain ⟨I, rfl⟩ : ∃ I : Nat, i = (I : Int) := ⟨i.toNat, by omega⟩
        obtain ⟨K, rfl⟩ : ∃ K : Nat, k = (K : Int) := ⟨k.toNat, by omega⟩
        have hI : I < ll.length := by omega
        have hK : K < ll.length := by omega
        have lI := (isT_row hT hI).1
        have lK := (isT_row hT hK).1
        obtain ⟨hc1, hc5, -⟩ := isT_bd hT
        have HE : Hid (agrOf c ll m I K = agrTo m (ll.getD I []) (ll.getD K []) (ll.getD I []).length) := Lib.hid (by
          unfold agrOf fineT; rw [hm, if_pos ⟨by simpa using hT, ⟨i0, i1⟩, ⟨k0, k1⟩⟩]
          rw [show ((I : Int)).toNat = I by omega, show ((K : Int)).toNat = K by omega]; congr 1; omega)
        have HG := Lib.hid (fun u u' w' (hu : ReadI w' u (ll.getD I [])) (hu' : ReadI w' u' (ll.getD K [])) => agreement_any m hmm u u' (ll.getD I []) (ll.getD K []) w' hu hu' (by omega) (by omega))
        rw [hF] at HG
        have z0 : (0 : Int) ≤ (I : Int) := by omega
        have z1 : (I : Int) < (ll.length : Int) := by omega
        have z2 : (0 : Int) ≤ (K : Int) := by omega
        have z3 : (K : Int) < (ll.length : Int) := by omega
        clear hm hF hmm hi hk hT i0 i1 k0 k1 lI lK hc1 hc5 hb1
        go_enter Try.func20, Try.ntmps20
        go_wp2_with fail
        refine (HO.out _).mono ?_
        rintro e w' ⟨rfl, rfl⟩
        go_wp2_with fail
        refine (HI.out _ HB1.out).mono ?_
        rintro e w' ⟨rfl, b⟩
        obtain ⟨c0, c1⟩ := box2 b
        have hb2 := HB1.out.trans (b.mono HB1.out.size)
        have HBB := Lib.hid b
        clear b
        go_wp2_with fail
        refine (HK.out _ hb2).mono ?_
        rintro e w3 ⟨rfl, b⟩
        have hb3 := hb2.trans (b.mono hb2.size)
        clear c0 c1
        obtain ⟨c0, c1⟩ := box2 (HBB.out.trans (b.mono HBB.out.size))
        clear b
        obtain ⟨a2, cap2, hv2, ha2⟩ := HR.out _ hb3
        simp only [Value.slice.injEq] at hv2
        obtain ⟨rfl, -, rfl⟩ := hv2
        obtain ⟨x, ui, rfl, hxi, hui⟩ := ha2 I hI
        obtain ⟨x', uk, hx', hxk, huk⟩ := ha2 K hK
        obtain rfl := Option.some.inj hx'
        have HUI := Lib.hid hui
        have HUK := Lib.hid huk
        have HQ := Lib.hid (fun n => HG.out ui uk (w3.drewN n) (hui.kept (below_drewN (Below.refl _ _) n)) (huk.kept (below_drewN (Below.refl _ _) n)))
        clear hui huk ha2 hx' hb2
        go_wp2_with fail
        go_quiet ((go_at_call 56; exact Calls.quiet_of (HQ.out _)))
        go_wp2_with fail
        go_ret
        exact ⟨by rw [HE.out]; rfl, below_drewN hb3 _⟩
end Go.Proofs.Ytchdceglcjjggaa
