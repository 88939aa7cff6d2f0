/- The model's chapter 5: the class of a row, the error, finer, by contract. Conditions: as stated. -/
import Derived.Test.YtkaalgbcdcbgoaaAgrB
namespace Go.Proofs.Ytkaalgbcdcbgoaa
open Go.RowKit

/-- The place of the first class that has this row, or -1. -/
def clsI : List (List Int) → Int → Int
  | [], _ => -1
  | r :: t, x => if x ∈ r then 0 else if clsI t x < 0 then -1 else clsI t x + 1
theorem clsI_ge : ∀ (ll : List (List Int)) (x : Int), -1 ≤ clsI ll x ∧ clsI ll x < ll.length
  | [], _ => by simp [clsI]
  | r :: t, x => by
    have := clsI_ge t x
    unfold clsI
    split
    · simp
    · split <;> simp <;> omega
theorem clsI_hit : ∀ (ll : List (List Int)) (x : Int) (k : Nat), k < ll.length → (∀ i, i < k → x ∉ ll.getD i []) → x ∈ ll.getD k [] → clsI ll x = (k : Int)
  | [], _, k, h, _, _ => absurd h (Nat.not_lt_zero _)
  | r :: t, x, 0, _, _, h => by
    have h' : x ∈ r := h
    unfold clsI; rw [if_pos h']; rfl
  | r :: t, x, k + 1, h1, h2, h3 => by
    have h4 : x ∉ r := h2 0 (by omega)
    have ih := clsI_hit t x k (by simp at h1; omega) (fun i hi => by have := h2 (i + 1) (by omega); simpa using this) (by simpa using h3)
    unfold clsI; rw [if_neg h4, ih, if_neg (by omega)]; simp
theorem clsI_none : ∀ (ll : List (List Int)) (x : Int), (∀ i, i < ll.length → x ∉ ll.getD i []) → clsI ll x = -1
  | [], _, _ => rfl
  | r :: t, x, h => by
    have h4 : x ∉ r := h 0 (by simp)
    have ih := clsI_none t x (fun i hi => by have := h (i + 1) (by simp; omega); simpa using this)
    unfold clsI; rw [if_neg h4, ih]; rfl
theorem class5_any (v : Value) (ll : List (List Int)) (x : Int) (w : World) (hr : ReadSS w v ll) (hl : ll.length ≤ 1048576) (ht : ∀ i, i < ll.length → (ll.getD i []).length ≤ 1048576) :
    Calls Try.prog 43 #[v, .int .i64 x] w fun e w' => e = .returned (.int .i64 (clsI ll x)) ∧ w = w' := by
  obtain ⟨a, cap, rfl, ha⟩ := hr
  have HA := Lib.hid ha
  have HT := Lib.hid ht
  clear ha ht
  go_enter Try.func43, Try.ntmps43
  go_wp2_with fail
  go_loop [5] (fun iv => ∃ k : Nat, k ≤ ll.length ∧ iv = .int .i64 (k : Int) ∧ Hid (∀ i, i < k → x ∉ ll.getD i [])) (fun iv => ll.length - (intOf iv).toNat)
  case atStart => exact ⟨0, by omega, rfl, Lib.hid (fun i hi => absurd hi (Nat.not_lt_zero _))⟩
  case round =>
    obtain ⟨k, hk, rfl, hno⟩ := hrel
    by_cases hlt : k < ll.length
    · obtain ⟨xa, u, rfl, hx, hu⟩ := HA.out k hlt
      have HQ := Lib.hid (l2Has_any u (ll.getD k []) x w hu (by have := HT.out k hlt; omega))
      have z0 : (0 : Int) ≤ (k : Int) := by omega
      have z1 : (k : Int) < (ll.length : Int) := by omega
      clear hu
      by_cases hm : x ∈ ll.getD k []
      · have HE := Lib.hid (clsI_hit ll x k hlt hno.out hm)
        rw [decide_eq_true hm] at HQ
        clear hm
        go_wp2_with fail
        refine HQ.out.mono ?_
        rintro e w' ⟨rfl, rfl⟩
        go_wp2_with fail
        go_ret
        exact ⟨by rw [HE.out]; rfl, rfl⟩
      · have HN := Lib.hid hm
        rw [decide_eq_false hm] at HQ
        clear hm
        go_wp2_with fail
        refine HQ.out.mono ?_
        rintro e w' ⟨rfl, rfl⟩
        go_wp2_with fail
        go_round
        case rel => exact ⟨k + 1, by omega, by go_num, Lib.hid (fun i hi => by rcases (show i < k ∨ i = k by omega) with h | h; exact hno.out i h; rw [h]; exact HN.out)⟩
        case measure => simp [intOf]; omega
    · obtain rfl : k = ll.length := by omega
      have HE := Lib.hid (clsI_none ll x hno.out)
      go_wp2_with fail
      go_ret
      exact ⟨by rw [HE.out]; rfl, rfl⟩
/-- The rows less one of each of the first k classes. -/
def errTo (ll : List (List Int)) : Nat → Int
  | 0 => 0
  | k + 1 => errTo ll k + max 0 (((ll.getD k []).length : Int) - 1)
theorem errTo_bd (ll : List (List Int)) (h : ∀ i, i < ll.length → (ll.getD i []).length ≤ 1048576) : ∀ k, k ≤ ll.length → 0 ≤ errTo ll k ∧ errTo ll k ≤ 1048576 * k
  | 0, _ => by simp [errTo]
  | k + 1, hk => by
    have ih := errTo_bd ll h k (by omega)
    have := h k (by omega)
    unfold errTo
    omega
theorem errorOf_any (v : Value) (ll : List (List Int)) (w : World) (hr : ReadSS w v ll) (hl : ll.length ≤ 1048576) (ht : ∀ i, i < ll.length → (ll.getD i []).length ≤ 1048576) :
    Calls Try.prog 23 #[v] w fun e w' => e = .returned (.int .i64 (errTo ll ll.length)) ∧ w = w' := by
  obtain ⟨a, cap, rfl, ha⟩ := hr
  have HA := Lib.hid ha
  have HT := Lib.hid ht
  have HB := Lib.hid (errTo_bd ll ht)
  clear ha ht
  go_enter Try.func23, Try.ntmps23
  go_wp2_with fail
  go_loop [3, 4] (fun sv iv => ∃ k : Nat, k ≤ ll.length ∧ iv = .int .i64 (k : Int) ∧ sv = .int .i64 (errTo ll k)) (fun _ iv => ll.length - (intOf iv).toNat)
  case atStart => exact ⟨0, by omega, rfl, rfl⟩
  case round =>
    obtain ⟨k, hk, rfl, rfl⟩ := hrel
    by_cases hlt : k < ll.length
    · obtain ⟨xa, u, rfl, hx, hu⟩ := HA.out k hlt
      obtain ⟨au, cu, rfl, -⟩ := hu
      have hlr := HT.out k hlt
      have hbd := HB.out k hk
      have HS : Hid (errTo ll (k + 1) = errTo ll k + max 0 (((ll.getD k []).length : Int) - 1)) := Lib.hid rfl
      obtain ⟨E, hE⟩ : ∃ E, E = errTo ll k := ⟨_, rfl⟩
      obtain ⟨R, hR⟩ : ∃ R, R = (ll.getD k []).length := ⟨_, rfl⟩
      rw [← hE] at hbd HS ⊢
      rw [← hR] at HS hlr hx
      clear hE hR
      have z0 : (0 : Int) ≤ (k : Int) := by omega
      have z1 : (k : Int) < (ll.length : Int) := by omega
      go_wp2_with fail
      go_round
      case rel => exact ⟨k + 1, by omega, by go_num, by rw [HS.out]; congr 2; split <;> omega⟩
      case measure => simp [intOf]; omega
    · obtain rfl : k = ll.length := by omega
      go_wp2_with fail
      go_ret
      exact ⟨rfl, rfl⟩
/-- A row lies in the class of q that f lies in; a class lies within one class of q. -/
def inQ (q : List (List Int)) (f x : Int) : Bool := decide (0 ≤ clsI q x ∧ clsI q x = clsI q f)
def finR (q : List (List Int)) (r : List Int) : Bool := !q.isEmpty && r.all (inQ q (r.getD 0 0))
def finB (p q : List (List Int)) : Bool := p.all (finR q)
set_option maxHeartbeats 1600000 in
theorem isFiner_any (v v' : Value) (p q : List (List Int)) (w : World) (hr : ReadSS w v p) (hq : ReadSS w v' q) (hl : p.length ≤ 1048576) (ht : ∀ i, i < p.length → (p.getD i []).length ≤ 1048576) (hl' : q.length ≤ 1048576) (ht' : ∀ i, i < q.length → (q.getD i []).length ≤ 1048576) :
    Calls Try.prog 25 #[v, v'] w fun e w' => e = .returned (.bool (finB p q)) ∧ w = w' := by
  have HC := Lib.hid (fun x => class5_any v' q x w hq hl' ht')
  obtain ⟨a, cap, rfl, ha⟩ := hr
  obtain ⟨a', cap', rfl, -⟩ := hq
  have HA := Lib.hid ha
  have HT := Lib.hid ht
  clear ha ht ht'
  go_enter Try.func25, Try.ntmps25
  go_wp2_with fail
  go_loop [5] (fun iv => ∃ i : Nat, i ≤ p.length ∧ iv = .int .i64 (i : Int) ∧ Hid ((p.take i).all (finR q) = true)) (fun iv => p.length - (intOf iv).toNat)
  case atStart => exact ⟨0, by omega, rfl, Lib.hid rfl⟩
  case round =>
    obtain ⟨i, hi, rfl, hall⟩ := hrel
    by_cases hlt : i < p.length
    · obtain ⟨xa, u, rfl, hx, hu⟩ := HA.out i hlt
      have hlr := HT.out i hlt
      have HOK := Lib.hid (fun h => all_snoc (p := finR q) hlt hall.out h)
      have HNO := Lib.hid (fun h => all_not (p := finR q) hlt h)
      have hg : p[i] = p.getD i [] := by rw [List.getD_eq_getElem?_getD, List.getElem?_eq_getElem hlt]; rfl
      rw [hg] at HOK HNO
      obtain ⟨r, hrr⟩ : ∃ r, r = p.getD i [] := ⟨_, rfl⟩
      rw [← hrr] at HOK HNO hu hlr
      obtain ⟨ar, cr, rfl, har⟩ := hu
      have HR := Lib.hid har
      clear hg hrr har
      have z0 : (0 : Int) ≤ (i : Int) := by omega
      have z1 : (i : Int) < (p.length : Int) := by omega
      by_cases hq0 : q.length = 0
      · have HX : Hid (finB p q = false) := Lib.hid (HNO.out (by unfold finR; rw [List.eq_nil_of_length_eq_zero hq0]; rfl))
        have hqz : ((q.length : Int) == 0) = true := by rw [hq0]; rfl
        go_wp2_with fail
        go_ret
        exact ⟨ret_b HX.out, rfl⟩
      · have hqz : ((q.length : Int) == 0) = false := by rw [beq_eq_false_iff_ne]; omega
        have HQ0 : Hid (q.isEmpty = false) := Lib.hid (by cases q; simp at hq0; rfl)
        have hqN : ¬ q = [] := fun e => hq0 (by rw [e]; rfl)
        obtain ⟨f, hf⟩ : ∃ f, f = r.getD 0 0 := ⟨_, rfl⟩
        have HFR : Hid (finR q r = r.all (inQ q f)) := Lib.hid (by unfold finR; rw [HQ0.out, ← hf]; rfl)
        have HF0 := Lib.hid hf
        clear hq0 hf
        go_wp2_with fail
        go_loop [6] (fun kv => ∃ k : Nat, k ≤ r.length ∧ kv = .int .i64 (k : Int) ∧ Hid ((r.take k).all (inQ q f) = true)) (fun kv => r.length - (intOf kv).toNat)
        case atStart => exact ⟨0, by omega, rfl, Lib.hid rfl⟩
        case round =>
          obtain ⟨k, hk, rfl, hal⟩ := hrel
          by_cases hlk : k < r.length
          · obtain ⟨xr, rfl, hxk⟩ := HR.out k hlk
            obtain ⟨xr', hx0', hx0⟩ := HR.out 0 (by omega)
            obtain rfl := Option.some.inj hx0'
            rw [Addr.add_zero'] at hx0
            rw [get_getD r 0 (by omega), ← HF0.out] at hx0
            have HO2 : Hid (inQ q f (r.getD k 0) = true → (r.take (k + 1)).all (inQ q f) = true) := Lib.hid (fun h => by rw [← get_getD r k hlk] at h; exact all_snoc hlk hal.out h)
            have HN2 : Hid (inQ q f (r.getD k 0) = false → finB p q = false) := Lib.hid (fun h => HNO.out (by rw [HFR.out]; rw [← get_getD r k hlk] at h; exact all_not hlk h))
            have HI : Hid (inQ q f (r.getD k 0) = decide (0 ≤ clsI q (r.getD k 0) ∧ clsI q (r.getD k 0) = clsI q f)) := Lib.hid rfl
            rw [get_getD r k hlk] at hxk
            obtain ⟨y, hy⟩ : ∃ y, y = r.getD k 0 := ⟨_, rfl⟩
            rw [← hy] at hxk HO2 HN2 HI
            have HY := HC.out y
            have HF := HC.out f
            obtain ⟨cy, hcy⟩ : ∃ cy, cy = clsI q y := ⟨_, rfl⟩
            obtain ⟨cf, hcf⟩ : ∃ cf, cf = clsI q f := ⟨_, rfl⟩
            rw [← hcy] at HY HI
            rw [← hcf] at HF HI
            have HY := Lib.hid HY
            have HF := Lib.hid HF
            have z2 : (0 : Int) ≤ (k : Int) := by omega
            have z3 : (k : Int) < (r.length : Int) := by omega
            have z4 : (0 : Int) < (r.length : Int) := by omega
            have z5 : 0 < r.length := by omega
            clear hy hcy hcf
            by_cases hc0 : cy < 0
            · have HX := Lib.hid (HN2.out (by rw [HI.out, decide_eq_false]; omega))
              go_wp2_with fail
              refine HY.out.mono ?_
              rintro e w' ⟨rfl, rfl⟩
              go_wp2_with fail
              go_ret
              exact ⟨ret_b HX.out, rfl⟩
            · by_cases hcc : cy = cf
              · have HX := Lib.hid (HO2.out (by rw [HI.out, decide_eq_true]; omega))
                have hne : (cy != cf) = false := by rw [hcc]; simp
                clear hcc
                go_wp2_with fail
                refine HY.out.mono ?_
                rintro e w' ⟨rfl, rfl⟩
                go_wp2_with fail
                refine HF.out.mono ?_
                rintro e w' ⟨rfl, rfl⟩
                go_wp2_with fail
                go_round
                case rel => exact ⟨k + 1, by omega, by go_num, HX⟩
                case measure => simp [intOf]; omega
              · have HX := Lib.hid (HN2.out (by rw [HI.out, decide_eq_false]; exact fun h => hcc h.2))
                have hne : (cy != cf) = true := by simpa using hcc
                clear hcc
                go_wp2_with fail
                refine HY.out.mono ?_
                rintro e w' ⟨rfl, rfl⟩
                go_wp2_with fail
                refine HF.out.mono ?_
                rintro e w' ⟨rfl, rfl⟩
                go_wp2_with fail
                go_ret
                exact ⟨ret_b HX.out, rfl⟩
          · obtain rfl : k = r.length := by omega
            have HX : Hid ((p.take (i + 1)).all (finR q) = true) := Lib.hid (HOK.out (by have := hal.out; rw [List.take_length] at this; rw [HFR.out, this]))
            go_wp2_with fail
            go_round
            case rel => exact ⟨i + 1, by omega, by go_num, HX⟩
            case measure => simp [intOf]; omega
    · obtain rfl : i = p.length := by omega
      have HX : Hid (finB p q = true) := Lib.hid (by have := hall.out; rw [List.take_length] at this; exact this)
      go_wp2_with fail
      go_ret
      exact ⟨ret_b HX.out, rfl⟩
end Go.Proofs.Ytkaalgbcdcbgoaa
