/- The model's FormatPartition, by contract. Conditions: as stated. -/
import Derived.Test.YtkaalgbcdcbgoaaDoorSpecT
import Derived.Test.YtkaalgbcdcbgoaaDoorFmt
import Derived.Test.YtkaalgbcdcbgoaaDoorRowsOpen
namespace Go.Proofs.YtkaalgbcdcbgoaaDoor
open Go.RowKit

theorem decs_len : ∀ (k u : Nat), u < 10 ^ (k + 1) → (Lib.decDigits u).length ≤ k + 1
  | 0, u, h => by rw [Lib.decDigits, dif_pos (by simpa using h)]; simp
  | k + 1, u, h => by
    by_cases hu : u < 10
    · rw [Lib.decDigits, dif_pos hu]; simp
    · rw [Lib.decDigits, dif_neg hu, List.length_append]
      have h2 : u < 10 ^ (k + 1) * 10 := by rw [← Nat.pow_succ]; exact h
      have := decs_len k (u / 10) (by omega)
      simp; omega
theorem itoa_len {n : Int} (h0 : -9223372036854775808 ≤ n) (h1 : n ≤ 9223372036854775807) : (itoaB n).data.toList.length ≤ 20 := by
  have hp : (10 : Nat) ^ (18 + 1) = 10000000000000000000 := by decide
  unfold itoaB Lib.itoa
  split
  · have := decs_len 18 n.natAbs (by rw [hp]; omega)
    simp; omega
  · have := decs_len 18 n.toNat (by rw [hp]; omega)
    simp; omega
/-- The rows of a class, the first k of them, blanks between; the classes, the first i of them. -/
def fpRow (r : List Int) : Nat → List UInt8
  | 0 => []
  | k + 1 => fpRow r k ++ ((if 0 < k then [32] else []) ++ (itoaB (r.getD k 0)).data.toList)
def fpTo (p : List (List Int)) : Nat → List UInt8
  | 0 => []
  | i + 1 => fpTo p i ++ ((if 0 < i then [32, 124, 32] else []) ++ fpRow (p.getD i []) (p.getD i []).length)
def fmtP (p : List (List Int)) : ByteArray := if fpTo p p.length = [] then ⟨#[110, 111, 110, 101]⟩ else ⟨(fpTo p p.length).toArray⟩
theorem fpRow_len {r : List Int} (h : ∀ x ∈ r, -9223372036854775808 ≤ x ∧ x ≤ 9223372036854775807) : ∀ k, k ≤ r.length → (fpRow r k).length ≤ 21 * k
  | 0, _ => by simp [fpRow]
  | k + 1, hk => by
    have ih := fpRow_len h k (by omega)
    have hx := h (r.getD k 0) (by rw [← get_getD r k (by omega)]; exact List.getElem_mem _)
    have h1 := itoa_len hx.1 hx.2
    unfold fpRow
    rw [List.length_append, List.length_append]
    split <;> simp only [List.length_cons, List.length_nil] <;> omega
theorem fpTo_len {p : List (List Int)} (h : I64ss p) : ∀ i, i ≤ p.length → (fpTo p i).length ≤ 3 * i + 21 * tot (p.take i)
  | 0, _ => by simp [fpTo]
  | i + 1, hi => by
    have ih := fpTo_len h i (by omega)
    have h1 := fpRow_len (h i (by omega)) (p.getD i []).length (Nat.le_refl _)
    have h2 := tot_succ (ll := p) (k := i) (by omega)
    unfold fpTo
    rw [List.length_append, List.length_append]
    split <;> simp only [List.length_cons, List.length_nil] <;> omega
set_option maxRecDepth 20000 in
set_option maxHeartbeats 3200000 in
theorem formatPartition_any (v : Value) (p : List (List Int)) (w : World) (hr : ReadSS w v p) (hl : p.length ≤ 1048576) (htot : tot p ≤ 1048576) (hbd : I64ss p) :
    Calls Tryd.prog 5 #[v] w fun e w' => e = .returned (.string (fmtP p)) ∧ Below w.heap.size w w' := by
  obtain ⟨a, cap, rfl, ha⟩ := hr
  have HA := Lib.hid ha
  have HBD := Lib.hid hbd
  have HLN := Lib.hid (fun i (hi : i ≤ p.length) => show (fpTo p i).length ≤ 30000000 from by have := fpTo_len hbd i hi; have := tot_take p i; omega)
  clear ha hbd
  go_enter Tryd.func5, Tryd.ntmps5
  go_wp2_with fail
  go_loopw [3, 4] (fun sv iv wr => ∃ (i : Nat) (s : ByteArray), i ≤ p.length ∧ iv = .int .i64 (i : Int) ∧ sv = .string s ∧ Hid (s.data.toList = fpTo p i) ∧ Hid (Below w.heap.size w wr)) (fun _ iv _ => p.length - (intOf iv).toNat)
  case atStart => exact ⟨0, _, by omega, rfl, rfl, Lib.hid rfl, Lib.hid (Below.refl _ _)⟩
  case round =>
    obtain ⟨i, s, hi, rfl, rfl, hs, hb⟩ := hrel
    have hss : s.size ≤ 30000000 := by have := HLN.out i hi; rw [str_size, hs.out]; exact this
    by_cases hlt : i < p.length
    · obtain ⟨x, u, rfl, hx, hu⟩ := HA.out i hlt
      have hlr := tot_get hlt
      have HFS := Lib.hid (show fpTo p (i + 1) = fpTo p i ++ ((if 0 < i then [32, 124, 32] else []) ++ fpRow (p.getD i []) (p.getD i []).length) from rfl)
      have HBR := Lib.hid (HBD.out i hlt)
      obtain ⟨r, hrr⟩ : ∃ r, r = p.getD i [] := ⟨_, rfl⟩
      rw [← hrr] at hu hlr HFS HBR
      have HRL := Lib.hid (fun k (hk : k ≤ r.length) => show (fpRow r k).length ≤ 30000000 from by have := fpRow_len HBR.out k hk; omega)
      obtain ⟨ar, cr, rfl, har⟩ := hu
      have HR := Lib.hid har
      have HX := Lib.hid hx
      have hyi := (hb.out.cell (World.block_lt_of_cell? w _ hx)).trans hx
      have z0 : (0 : Int) ≤ (i : Int) := by omega
      have z1 : (i : Int) < (p.length : Int) := by omega
      obtain ⟨pre, hpre⟩ : ∃ pre : List UInt8, pre = fpTo p i ++ (if 0 < i then [32, 124, 32] else []) := ⟨_, rfl⟩
      have HPRE : Hid (pre.length ≤ 30000003) := Lib.hid (by have := HLN.out i hi; rw [hpre, List.length_append]; split <;> simp <;> omega)
      have HFS2 : Hid (fpTo p (i + 1) = pre ++ fpRow r r.length) := Lib.hid (by rw [HFS.out, hpre, List.append_assoc])
      have HPE := Lib.hid hpre
      clear hrr har hx hpre
      by_cases hi0 : 0 < i
      · have hi1 : (0 : Int) < (i : Int) := by omega
        have hcat : s.size + (({ data := #[32, 124, 32] } : ByteArray)).size ≤ 9223372036854775807 := by show s.size + 3 ≤ _; omega
        have HS1 : Hid ((s ++ ({ data := #[32, 124, 32] } : ByteArray)).data.toList = pre) := Lib.hid (by rw [str_add, hs.out, HPE.out, if_pos hi0])
        obtain ⟨wi, rfl⟩ : ∃ wi : World, wi = wr := ⟨_, rfl⟩
        go_wp2_with fail
        go_loopw [3, 5] (fun sv kv wr => ∃ (k : Nat) (s2 : ByteArray), k ≤ r.length ∧ kv = .int .i64 (k : Int) ∧ sv = .string s2 ∧ Hid (s2.data.toList = pre ++ fpRow r k) ∧ Hid (Below w.heap.size w wr)) (fun _ kv _ => r.length - (intOf kv).toNat)
        case atStart => exact ⟨0, _, by omega, rfl, rfl, Lib.hid (by rw [HS1.out]; simp [fpRow]), hb⟩
        case round =>
          clear hyi hss
          obtain ⟨k, s2, hk, rfl, rfl, hs2, hb⟩ := hrel
          have hyi := (hb.out.cell (World.block_lt_of_cell? w _ HX.out)).trans HX.out
          have hss2 : s2.size ≤ 60000003 := by have h1 := HRL.out k hk; have h2 := HPRE.out; rw [str_size, hs2.out, List.length_append]; omega
          by_cases hlk : k < r.length
          · obtain ⟨xr, rfl, hxk⟩ := HR.out k hlk
            have hbx := HBR.out r[k] (List.getElem_mem hlk)
            rw [get_getD r k hlk] at hxk hbx
            have hyk := (hb.out.cell (World.block_lt_of_cell? w _ hxk)).trans hxk
            have HST := Lib.hid (show fpRow r (k + 1) = fpRow r k ++ ((if 0 < k then [32] else []) ++ (itoaB (r.getD k 0)).data.toList) from rfl)
            obtain ⟨y, hy⟩ : ∃ y, y = r.getD k 0 := ⟨_, rfl⟩
            rw [← hy] at hyk hbx HST
            have HF := Lib.hid (fun w' => specFI y hbx.1 hbx.2 w')
            have htl : (itoaB y).size ≤ 20 := by rw [str_size]; exact itoa_len hbx.1 hbx.2
            obtain ⟨t, ht⟩ : ∃ t, t = itoaB y := ⟨_, rfl⟩
            rw [← ht] at HF htl HST
            have z2 : (0 : Int) ≤ (k : Int) := by omega
            have z3 : (k : Int) < (r.length : Int) := by omega
            clear hy ht hxk hbx
            by_cases hk0 : 0 < k
            · have hk1 : (0 : Int) < (k : Int) := by omega
              have hcat2 : s2.size + (({ data := #[32] } : ByteArray)).size ≤ 9223372036854775807 := by show s2.size + 1 ≤ _; omega
              have hcat3 : (s2 ++ ({ data := #[32] } : ByteArray)).size + t.size ≤ 9223372036854775807 := by rw [ByteArray.size_append]; show s2.size + 1 + t.size ≤ _; omega
              go_wp2_with fail
              refine (HF.out _).mono ?_
              rintro e w5 ⟨rfl, b5⟩
              have hb5 := Lib.hid (hb.out.trans (b5.mono hb.out.size))
              clear b5
              go_wp2_with fail
              go_roundw
              case rel => exact ⟨k + 1, _, by omega, by go_num, rfl, Lib.hid (by rw [str_add, str_add, hs2.out, HST.out, if_pos hk0]; simp), hb5⟩
              case measure => simp [intOf]; omega
            · obtain rfl : k = 0 := by omega
              rw [Addr.add_zero'] at hyk
              have hcat3 : s2.size + t.size ≤ 9223372036854775807 := by omega
              go_wp2_with fail
              refine (HF.out _).mono ?_
              rintro e w5 ⟨rfl, b5⟩
              have hb5 := Lib.hid (hb.out.trans (b5.mono hb.out.size))
              clear b5
              go_wp2_with fail
              go_roundw
              case rel => exact ⟨1, _, by omega, rfl, rfl, Lib.hid (by rw [str_add, hs2.out, HST.out, if_neg (by omega)]; simp), hb5⟩
              case measure => simp [intOf]; omega
          · obtain rfl : k = r.length := by omega
            go_wp2_with fail
            go_roundw
            case rel => exact ⟨i + 1, _, by omega, by go_num, rfl, Lib.hid (by rw [hs2.out, HFS2.out]), hb⟩
            case measure => simp [intOf]; omega
      · have hi1 : ¬ (0 : Int) < (i : Int) := by omega
        have HS1 : Hid (s.data.toList = pre) := Lib.hid (by rw [hs.out, HPE.out, if_neg hi0, List.append_nil])
        obtain ⟨wi, rfl⟩ : ∃ wi : World, wi = wr := ⟨_, rfl⟩
        go_wp2_with fail
        go_loopw [3, 5] (fun sv kv wr => ∃ (k : Nat) (s2 : ByteArray), k ≤ r.length ∧ kv = .int .i64 (k : Int) ∧ sv = .string s2 ∧ Hid (s2.data.toList = pre ++ fpRow r k) ∧ Hid (Below w.heap.size w wr)) (fun _ kv _ => r.length - (intOf kv).toNat)
        case atStart => exact ⟨0, _, by omega, rfl, rfl, Lib.hid (by rw [HS1.out]; simp [fpRow]), hb⟩
        case round =>
          clear hyi hss
          obtain ⟨k, s2, hk, rfl, rfl, hs2, hb⟩ := hrel
          have hyi := (hb.out.cell (World.block_lt_of_cell? w _ HX.out)).trans HX.out
          have hss2 : s2.size ≤ 60000003 := by have h1 := HRL.out k hk; have h2 := HPRE.out; rw [str_size, hs2.out, List.length_append]; omega
          by_cases hlk : k < r.length
          · obtain ⟨xr, rfl, hxk⟩ := HR.out k hlk
            have hbx := HBR.out r[k] (List.getElem_mem hlk)
            rw [get_getD r k hlk] at hxk hbx
            have hyk := (hb.out.cell (World.block_lt_of_cell? w _ hxk)).trans hxk
            have HST := Lib.hid (show fpRow r (k + 1) = fpRow r k ++ ((if 0 < k then [32] else []) ++ (itoaB (r.getD k 0)).data.toList) from rfl)
            obtain ⟨y, hy⟩ : ∃ y, y = r.getD k 0 := ⟨_, rfl⟩
            rw [← hy] at hyk hbx HST
            have HF := Lib.hid (fun w' => specFI y hbx.1 hbx.2 w')
            have htl : (itoaB y).size ≤ 20 := by rw [str_size]; exact itoa_len hbx.1 hbx.2
            obtain ⟨t, ht⟩ : ∃ t, t = itoaB y := ⟨_, rfl⟩
            rw [← ht] at HF htl HST
            have z2 : (0 : Int) ≤ (k : Int) := by omega
            have z3 : (k : Int) < (r.length : Int) := by omega
            clear hy ht hxk hbx
            by_cases hk0 : 0 < k
            · have hk1 : (0 : Int) < (k : Int) := by omega
              have hcat2 : s2.size + (({ data := #[32] } : ByteArray)).size ≤ 9223372036854775807 := by show s2.size + 1 ≤ _; omega
              have hcat3 : (s2 ++ ({ data := #[32] } : ByteArray)).size + t.size ≤ 9223372036854775807 := by rw [ByteArray.size_append]; show s2.size + 1 + t.size ≤ _; omega
              go_wp2_with fail
              refine (HF.out _).mono ?_
              rintro e w5 ⟨rfl, b5⟩
              have hb5 := Lib.hid (hb.out.trans (b5.mono hb.out.size))
              clear b5
              go_wp2_with fail
              go_roundw
              case rel => exact ⟨k + 1, _, by omega, by go_num, rfl, Lib.hid (by rw [str_add, str_add, hs2.out, HST.out, if_pos hk0]; simp), hb5⟩
              case measure => simp [intOf]; omega
            · obtain rfl : k = 0 := by omega
              rw [Addr.add_zero'] at hyk
              have hcat3 : s2.size + t.size ≤ 9223372036854775807 := by omega
              go_wp2_with fail
              refine (HF.out _).mono ?_
              rintro e w5 ⟨rfl, b5⟩
              have hb5 := Lib.hid (hb.out.trans (b5.mono hb.out.size))
              clear b5
              go_wp2_with fail
              go_roundw
              case rel => exact ⟨1, _, by omega, rfl, rfl, Lib.hid (by rw [str_add, hs2.out, HST.out, if_neg (by omega)]; simp), hb5⟩
              case measure => simp [intOf]; omega
          · obtain rfl : k = r.length := by omega
            go_wp2_with fail
            go_roundw
            case rel => exact ⟨i + 1, _, by omega, by go_num, rfl, Lib.hid (by rw [hs2.out, HFS2.out]), hb⟩
            case measure => simp [intOf]; omega
    · obtain rfl : i = p.length := by omega
      by_cases he : fpTo p p.length = []
      · have HE : Hid (fmtP p = ⟨#[110, 111, 110, 101]⟩) := Lib.hid (by unfold fmtP; rw [if_pos he])
        have hse : s = ({ data := #[] } : ByteArray) := str_ext (by rw [hs.out, he])
        subst hse
        go_wp2_with fail
        go_ret
        exact ⟨ret_s HE.out, hb.out⟩
      · have HE : Hid (fmtP p = s) := Lib.hid (by unfold fmtP; rw [if_neg he]; apply str_ext; rw [hs.out])
        have hse : s.toList.isEmpty = false := by
          rw [ByteArray.toList_eq, hs.out]
          cases hq : fpTo p p.length with
          | nil => exact (he hq).elim
          | cons x t => rfl
        clear he
        go_wp2_with fail
        go_ret
        exact ⟨ret_s HE.out, hb.out⟩
end Go.Proofs.YtkaalgbcdcbgoaaDoor
