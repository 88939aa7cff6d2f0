/- The model's FormatTable, by contract. Conditions: as stated. -/
import Derived.Test.YtnelddlbpdpndaaDoorSpecT2
import Derived.Test.YtnelddlbpdpndaaDoorSets5
import Derived.Test.YtnelddlbpdpndaaDoorFmt
namespace Go.Proofs.YtnelddlbpdpndaaDoor
open Go.RowKit

/-- The text of a value. -/
def cellS (x : Int) : ByteArray := if x = -1 then ⟨#[110, 117, 108, 108]⟩ else itoaB x
def cellB (x : Int) : List UInt8 := (cellS x).data.toList
theorem cell_any (x : Int) (h0 : -9223372036854775808 ≤ x) (h1 : x ≤ 9223372036854775807) (w : World) :
    Calls Tryd.prog 18 #[.int .i64 x] w fun e w' => e = .returned (.string (cellS x)) ∧ Below w.heap.size w w' := by
  by_cases hx : x = -1
  · subst hx
    go_enter Tryd.func18, Tryd.ntmps18
    go_wp2_with fail
    go_ret
    exact ⟨ret_s (by unfold cellS; rw [if_pos rfl]), Below.refl _ _⟩
  · have hne : (x == -1) = false := by simpa using hx
    have HX := Lib.hid hx
    clear hx
    go_enter Tryd.func18, Tryd.ntmps18
    go_wp2_with fail
    refine (specFI x h0 h1 _).mono ?_
    rintro e w' ⟨rfl, hb⟩
    go_wp2_with fail
    go_ret
    exact ⟨ret_s (by unfold cellS; rw [if_neg HX.out]), hb⟩
theorem cellB_small : ∀ i : Fin 41, (Lib.itoa ((i.val : Nat) : Int)).length ≤ 2 := by
  intro i
  have h := i.isLt
  rcases (show i.val < 10 ∨ 10 ≤ i.val by omega) with h1 | h1
  · have e : Lib.itoa ((i.val : Nat) : Int) = Lib.decDigits i.val := by
      unfold Lib.itoa; rw [if_neg (by omega)]; rfl
    rw [e, Lib.decDigits, dif_pos h1]; simp
  · have e : Lib.itoa ((i.val : Nat) : Int) = Lib.decDigits i.val := by
      unfold Lib.itoa; rw [if_neg (by omega)]; rfl
    rw [e, Lib.decDigits, dif_neg (by omega), Lib.decDigits, dif_pos (by omega)]; simp
theorem cellB_len {x : Int} (h0 : -1 ≤ x) (h1 : x ≤ 40) : (cellB x).length ≤ 4 := by
  unfold cellB cellS
  by_cases hx : x = -1
  · rw [if_pos hx]; simp
  · rw [if_neg hx]
    obtain ⟨X, rfl⟩ : ∃ X : Nat, x = (X : Int) := ⟨x.toNat, by omega⟩
    have := cellB_small ⟨X, by omega⟩
    unfold itoaB
    simp only at this ⊢
    omega
/-- The values of a row, the first k of them, blanks between. -/
def rowPre (r : List Int) : Nat → List UInt8
  | 0 => []
  | k + 1 => rowPre r k ++ ((if 0 < k then [32] else []) ++ cellB (r.getD k 0))
theorem rowPre_len {r : List Int} (h : ∀ x ∈ r, -1 ≤ x ∧ x ≤ 40) (k : Nat) (hk : k ≤ r.length) : (rowPre r k).length ≤ 5 * k := by
  induction k with
  | zero => simp [rowPre]
  | succ k ih =>
    have hx := h (r.getD k 0) (by rw [← get_getD r k (by omega)]; exact List.getElem_mem _)
    have h1 := cellB_len hx.1 hx.2
    have h2 := ih (by omega)
    unfold rowPre
    rw [List.length_append, List.length_append]
    split <;> simp only [List.length_cons, List.length_nil] <;> omega
def rowB (r : List Int) : List UInt8 := rowPre r r.length ++ [10]
/-- The rows' texts, the first i of them. -/
def rowsB (ll : List (List Int)) : Nat → List UInt8
  | 0 => []
  | i + 1 => rowsB ll i ++ rowB (ll.getD i [])
def headB (c : Int) : List UInt8 := (fmtA (2 ^ c.toNat - 1)).data.toList ++ [10]
/-- The text of a table, empty if it is not valid. -/
def fmtT (c : Int) (ll : List (List Int)) : ByteArray := if isT c ll = true then ⟨(headB c ++ rowsB ll ll.length).toArray⟩ else ⟨#[]⟩
theorem head_len : ∀ C : Fin 6, (headB ((C.val : Nat) : Int)).length ≤ 6 := by decide +kernel
theorem rowB_len {c : Int} {ll : List (List Int)} (h : isT c ll = true) {k : Nat} (hk : k < ll.length) : (rowB (ll.getD k [])).length ≤ 26 := by
  obtain ⟨h1, h2⟩ := isT_row h hk
  obtain ⟨-, h5, -⟩ := isT_bd h
  have := rowPre_len h2 (ll.getD k []).length (Nat.le_refl _)
  unfold rowB
  rw [List.length_append]
  simp only [List.length_cons, List.length_nil]
  omega
theorem rowsB_len {c : Int} {ll : List (List Int)} (h : isT c ll = true) (i : Nat) (hi : i ≤ ll.length) : (rowsB ll i).length ≤ 26 * i := by
  induction i with
  | zero => simp [rowsB]
  | succ i ih =>
    have h1 := rowB_len h (show i < ll.length by omega)
    have h2 := ih (by omega)
    unfold rowsB
    rw [List.length_append]; omega
set_option maxRecDepth 20000 in
set_option maxHeartbeats 3200000 in
theorem formatTable_any (c : Int) (v : Value) (ll : List (List Int)) (w : World) (hr : ReadSS w v ll) (hl : ll.length ≤ 1048576) (ht : ∀ i, i < ll.length → (ll.getD i []).length ≤ 1048576) :
    Calls Tryd.prog 6 #[.agg #[.int .i64 c, v]] w fun e w' => e = .returned (.string (fmtT c ll)) ∧ Below w.heap.size w w' := by
  have HV := Lib.hid (fun w' (hb : Below w.heap.size w w') => isTable_any c v ll w' (hr.kept hb) hl ht)
  obtain ⟨a, cap, rfl, ha⟩ := hr
  have HA := Lib.hid ha
  clear ha ht
  have hb1 := (Below.refl w.heap.size w).alloc (Nat.le_refl _) (.cells #[.int .i64 c, .slice a ll.length cap] 27)
  cases hv : isT c ll with
  | true =>
    obtain ⟨c1, c5, h40⟩ := isT_bd hv
    have HROW := Lib.hid (fun k hk => isT_row hv (k := k) hk)
    have HRL := Lib.hid (fun i hi => rowsB_len hv i hi)
    have HE : Hid (fmtT c ll = ⟨(headB c ++ rowsB ll ll.length).toArray⟩) := Lib.hid (by unfold fmtT; rw [if_pos hv])
    rw [hv] at HV
    clear hv
    have HL2 := Lib.hid (fun w' => all_any c w' (by omega) c5)
    have hhl : (headB c).length ≤ 6 := by
      have := head_len ⟨c.toNat, by omega⟩
      simp only at this
      rwa [show ((c.toNat : Nat) : Int) = c by omega] at this
    have HF := Lib.hid (fun w' => formatS_any (2 ^ c.toNat - 1) w')
    obtain ⟨hd, hhd⟩ : ∃ hd, hd = fmtA (2 ^ c.toNat - 1) := ⟨_, rfl⟩
    have HH : Hid (headB c = hd.data.toList ++ [10]) := Lib.hid (by rw [hhd]; rfl)
    rw [← hhd] at HF
    have hds : hd.size ≤ 6 := by have := HH.out; rw [str_size]; rw [this, List.length_append] at hhl; omega
    obtain ⟨m, hm⟩ : ∃ m : Int, m = 2 ^ c.toNat - 1 := ⟨_, rfl⟩
    rw [← hm] at HF HL2
    clear hhd hm
    go_enter Tryd.func6, Tryd.ntmps6
    go_wp2_with fail
    refine (HV.out _ hb1).mono ?_
    rintro e w1 ⟨rfl, hb2⟩
    have HB2 := Lib.hid hb2
    obtain ⟨hc0, hc1⟩ := box2 hb2
    clear hb2
    go_wp2_with fail
    refine (HL2.out _).mono ?_
    rintro e w' ⟨rfl, rfl⟩
    go_wp2_with fail
    refine (HF.out _).mono ?_
    rintro e w2 ⟨rfl, hb3⟩
    have HB3 := Lib.hid (HB2.out.trans (hb3.mono HB2.out.size))
    clear hb3 hc0 hc1
    go_wp2_with fail
    go_loopw [3, 4] (fun sv iv wr => ∃ (i : Nat) (s : ByteArray), i ≤ ll.length ∧ iv = .int .i64 (i : Int) ∧ sv = .string s ∧ Hid (s.data.toList = headB c ++ rowsB ll i) ∧ Below (w.alloc (.cells #[.int .i64 c, .slice a ll.length cap] 27)).heap.size (w.alloc (.cells #[.int .i64 c, .slice a ll.length cap] 27)) wr) (fun _ iv _ => ll.length - (intOf iv).toNat)
    case atStart => exact ⟨0, _, by omega, rfl, rfl, Lib.hid (by rw [str_add, HH.out]; simp [rowsB]), HB3.out⟩
    case round =>
      obtain ⟨i, s, hi, rfl, rfl, hs, hb⟩ := hrel
      obtain ⟨hc0, hc1⟩ := box2 hb
      have hss : s.size ≤ 1046 := by
        have h := HRL.out i hi
        rw [str_size, hs.out, List.length_append]
        omega
      by_cases hlt : i < ll.length
      · obtain ⟨x, u, rfl, hx, hu⟩ := HA.out i hlt
        obtain ⟨hrl, hrc⟩ := HROW.out i hlt
        have hrp := rowPre_len hrc
        have HSU := Lib.hid (show rowsB ll (i + 1) = rowsB ll i ++ rowB (ll.getD i []) from rfl)
        obtain ⟨row, hrow⟩ : ∃ row, ll.getD i [] = row := ⟨_, rfl⟩
        rw [hrow] at hu hrl hrc hrp HSU
        have HU := Lib.hid hu
        obtain ⟨ar, rc, rfl, -⟩ := hu
        have HX := Lib.hid hx
        have HRC := Lib.hid hrc
        have HRP := Lib.hid hrp
        obtain ⟨R, hR⟩ : ∃ R : Nat, row.length = R := ⟨_, rfl⟩
        have hR5 : R ≤ 5 := by omega
        have HRR := Lib.hid hR
        rw [hR] at HX
        have HB := Lib.hid hb
        have hx2 := ((hb1.trans (hb.mono hb1.size)).cell (World.block_lt_of_cell? w _ HX.out)).trans HX.out
        have z0 : (0 : Int) ≤ (i : Int) := by omega
        have z1 : (i : Int) < (ll.length : Int) := by omega
        clear hrow hrl hrc hrp hx hR hb
        go_wp2_with fail
        obtain ⟨wi, rfl⟩ : ∃ wi : World, wi = wr := ⟨_, rfl⟩
        go_loopw [3, 5] (fun sv kv wr => ∃ (k : Nat) (s2 : ByteArray), k ≤ R ∧ kv = .int .i64 (k : Int) ∧ sv = .string s2 ∧ Hid (s2.data.toList = headB c ++ rowsB ll i ++ rowPre row k) ∧ Below (w.alloc (.cells #[.int .i64 c, .slice (some x) ll.length cap] 27)).heap.size (w.alloc (.cells #[.int .i64 c, .slice (some x) ll.length cap] 27)) wr) (fun _ kv _ => R - (intOf kv).toNat)
        case atStart => exact ⟨0, s, by omega, rfl, rfl, Lib.hid (by rw [hs.out]; simp [rowPre]), HB.out⟩
        case round =>
          clear hc0 hc1 hx2 hss
          obtain ⟨k, s2, hk, rfl, rfl, hs2, hb⟩ := hrel
          obtain ⟨hc0, hc1⟩ := box2 hb
          have hw := hb1.trans (hb.mono hb1.size)
          have hx2 := (hw.cell (World.block_lt_of_cell? w _ HX.out)).trans HX.out
          have hss : s2.size ≤ 1071 := by
            have h := HRL.out i hi
            have h2 := HRP.out k (by rw [HRR.out]; exact hk)
            rw [str_size, hs2.out, List.length_append, List.length_append]
            omega
          by_cases hkt : k < R
          · obtain ⟨ar', rc', hv', hcells⟩ := HU.out.kept hw
            have hkr : k < row.length := by rw [HRR.out]; exact hkt
            obtain ⟨xr, hxr, hcell⟩ := hcells k hkr
            simp at hv'
            obtain ⟨rfl, rfl⟩ := hv'
            subst hxr
            obtain ⟨y0, y1⟩ := HRC.out row[k] (List.getElem_mem hkr)
            rw [get_getD row k hkr] at hcell y0 y1
            have HST := Lib.hid (show rowPre row (k + 1) = rowPre row k ++ ((if 0 < k then [32] else []) ++ cellB (row.getD k 0)) from rfl)
            obtain ⟨y, hy⟩ : ∃ y, row.getD k 0 = y := ⟨_, rfl⟩
            rw [hy] at hcell y0 y1 HST
            have HC := Lib.hid (fun w' => cell_any y (by omega) (by omega) w')
            have hcl : (cellS y).size ≤ 4 := by rw [str_size]; exact cellB_len y0 y1
            have HCB := Lib.hid (show cellB y = (cellS y).data.toList from rfl)
            obtain ⟨t, ht⟩ : ∃ t, cellS y = t := ⟨_, rfl⟩
            rw [ht] at HC hcl HCB
            have y2 : (0 : Int) ≤ (k : Int) := by omega
            have y3 : (k : Int) < (R : Int) := by omega
            have HBB := Lib.hid hb
            clear hy ht hcells hw hb
            by_cases hk0 : 0 < k
            · go_wp2_with fail
              refine (HC.out _).mono ?_
              rintro e w9 ⟨rfl, hb9⟩
              have hb10 := Lib.hid (HBB.out.trans (hb9.mono HBB.out.size))
              clear hb9 hc0 hc1 hx2
              go_wp2_with fail
              go_roundw
              case rel => exact ⟨k + 1, _, by omega, by go_num, rfl, Lib.hid (by rw [str_add, str_add, hs2.out, HST.out, if_pos hk0, HCB.out]; simp), hb10.out⟩
              case measure => simp [intOf]; omega
            · obtain rfl : k = 0 := by omega
              rw [Addr.add_zero'] at hcell
              go_wp2_with fail
              refine (HC.out _).mono ?_
              rintro e w9 ⟨rfl, hb9⟩
              have hb10 := Lib.hid (HBB.out.trans (hb9.mono HBB.out.size))
              clear hb9 hc0 hc1 hx2
              go_wp2_with fail
              go_roundw
              case rel => exact ⟨1, _, by omega, rfl, rfl, Lib.hid (by rw [str_add, hs2.out, HST.out, if_neg (by omega), HCB.out]; simp), hb10.out⟩
              case measure => simp [intOf]; omega
          · obtain rfl : k = R := by omega
            have HBB := Lib.hid hb
            go_wp2_with fail
            go_roundw
            case rel => exact ⟨i + 1, _, by omega, by go_num, rfl, Lib.hid (by rw [str_add, hs2.out, HSU.out, ← HRR.out]; unfold rowB; simp), HBB.out⟩
            case measure => simp [intOf]; omega
      · obtain rfl : i = ll.length := by omega
        go_wp2_with fail
        go_ret
        exact ⟨ret_s (by rw [HE.out]; apply str_ext; rw [hs.out]), hb1.trans (hb.mono hb1.size)⟩
  | false =>
    have HE : Hid (fmtT c ll = ⟨#[]⟩) := Lib.hid (by unfold fmtT; rw [if_neg (by rw [hv]; simp)])
    rw [hv] at HV
    clear hv
    go_enter Tryd.func6, Tryd.ntmps6
    go_wp2_with fail
    refine (HV.out _ hb1).mono ?_
    rintro e w2 ⟨rfl, hb3⟩
    go_wp2_with fail
    go_ret
    exact ⟨ret_s HE.out, hb1.trans (hb3.mono hb1.size)⟩
end Go.Proofs.YtnelddlbpdpndaaDoor
