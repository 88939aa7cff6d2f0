/- Texts of this claim, merged: ParF, PgE, PgC. Conditions: as stated. -/
import Derived.Test.YtfndnaldgaaieaaGreatDoorSi5
import Derived.Test.YtfndnaldgaaieaaGreatDoorSi1
import Derived.Test.YtfndnaldgaaieaaGreatDoorSi18
import Derived.Test.YtfndnaldgaaieaaGreatDoorSi28
namespace Go.Proofs.YtfndnaldgaaieaaGreatDoor
open Go.RowKit

theorem decs_len : ∀ (k u : Nat), u < 10 ^ (k + 1) → (Lib.decDigits u).length ≤ k + 1
  | 0, u, h => by rw [Lib.decDigits, dif_pos (by simpa using h)]; simp
  | k + 1, u, h => by
    by_cases hu : u < 10
    · rw [Lib.decDigits, dif_pos hu]; simp
    · rw [Lib.decDigits, dif_neg hu, List.length_append]
      have h2 : u < 10 ^ (k + 1) * 10 := by rw [← Nat.pow_succ]; exact h
      have := decs_len k (u / 10) (by omega)
      simp; omega
theorem itoa_lenF {n : Int} (h0 : -9223372036854775808 ≤ n) (h1 : n ≤ 9223372036854775807) : (itoaB n).data.toList.length ≤ 20 := by
  have hp : (10 : Nat) ^ (18 + 1) = 10000000000000000000 := by decide
  unfold itoaB Lib.itoa
  split
  · have := decs_len 18 n.natAbs (by rw [hp]; omega)
    simp; omega
  · have := decs_len 18 n.toNat (by rw [hp]; omega)
    simp; omega
/-- The rows of a class, the first k of them, blanks between; the classes, the first i of them. -/
def fpRow (r : List Int) : Nat → List UInt8
  | 0 => []
  | k + 1 => fpRow r k ++ ((if 0 < k then [32] else []) ++ (itoaB (r.getD k 0)).data.toList)
def fpTo (p : List (List Int)) : Nat → List UInt8
  | 0 => []
  | i + 1 => fpTo p i ++ ((if 0 < i then [32, 124, 32] else []) ++ fpRow (p.getD i []) (p.getD i []).length)
def fmtP (p : List (List Int)) : ByteArray := if fpTo p p.length = [] then ⟨#[110, 111, 110, 101]⟩ else ⟨(fpTo p p.length).toArray⟩
theorem fpRow_len {r : List Int} (h : ∀ x ∈ r, -9223372036854775808 ≤ x ∧ x ≤ 9223372036854775807) : ∀ k, k ≤ r.length → (fpRow r k).length ≤ 21 * k
  | 0, _ => by simp [fpRow]
  | k + 1, hk => by
    have ih := fpRow_len h k (by omega)
    have hx := h (r.getD k 0) (by rw [← get_getD r k (by omega)]; exact List.getElem_mem _)
    have h1 := itoa_lenF hx.1 hx.2
    unfold fpRow
    rw [List.length_append, List.length_append]
    split <;> simp only [List.length_cons, List.length_nil] <;> omega
theorem fpTo_len {p : List (List Int)} (h : I64ss p) : ∀ i, i ≤ p.length → (fpTo p i).length ≤ 3 * i + 21 * tot (p.take i)
  | 0, _ => by simp [fpTo]
  | i + 1, hi => by
    have ih := fpTo_len h i (by omega)
    have h1 := fpRow_len (h i (by omega)) (p.getD i []).length (Nat.le_refl _)
    have h2 := tot_succ (ll := p) (k := i) (by omega)
    unfold fpTo
    rw [List.length_append, List.length_append]
    split <;> simp only [List.length_cons, List.length_nil] <;> omega
set_option maxRecDepth 20000 in
set_option maxHeartbeats 3200000 in
theorem formatPartition_any (v : Value) (p : List (List Int)) (w : World) (hr : ReadSS w v p) (hl : p.length ≤ 1048576) (htot : tot p ≤ 1048576) (hbd : I64ss p) :
    Calls Tryz.prog 10 #[v] w fun e w' => e = .returned (.string (fmtP p)) ∧ Below w.heap.size w w' := by
  obtain ⟨a, cap, rfl, ha⟩ := hr
  have HA := Lib.hid ha
  have HBD := Lib.hid hbd
  have HLN := Lib.hid (fun i (hi : i ≤ p.length) => show (fpTo p i).length ≤ 30000000 from by have := fpTo_len hbd i hi; have := tot_take p i; omega)
  clear ha hbd
  go_enter Tryz.func10, Tryz.ntmps10
  go_wp2_with fail
  go_loopw [3, 4] (fun sv iv wr => ∃ (i : Nat) (s : ByteArray), i ≤ p.length ∧ iv = .int .i64 (i : Int) ∧ sv = .string s ∧ Hid (s.data.toList = fpTo p i) ∧ Hid (Below w.heap.size w wr)) (fun _ iv _ => p.length - (intOf iv).toNat)
  case atStart => exact ⟨0, _, by omega, rfl, rfl, Lib.hid rfl, Lib.hid (Below.refl _ _)⟩
  case round =>
    obtain ⟨i, s, hi, rfl, rfl, hs, hb⟩ := hrel
    have hss : s.size ≤ 30000000 := by have := HLN.out i hi; rw [str_size, hs.out]; exact this
    by_cases hlt : i < p.length
    · obtain ⟨x, u, rfl, hx, hu⟩ := HA.out i hlt
      have hlr := tot_get hlt
      have HFS := Lib.hid (show fpTo p (i + 1) = fpTo p i ++ ((if 0 < i then [32, 124, 32] else []) ++ fpRow (p.getD i []) (p.getD i []).length) from rfl)
      have HBR := Lib.hid (HBD.out i hlt)
      obtain ⟨r, hrr⟩ : ∃ r, r = p.getD i [] := ⟨_, rfl⟩
      rw [← hrr] at hu hlr HFS HBR
      have HRL := Lib.hid (fun k (hk : k ≤ r.length) => show (fpRow r k).length ≤ 30000000 from by have := fpRow_len HBR.out k hk; omega)
      obtain ⟨ar, cr, rfl, har⟩ := hu
      have HR := Lib.hid har
      have HX := Lib.hid hx
      have hyi := (hb.out.cell (World.block_lt_of_cell? w _ hx)).trans hx
      have z0 : (0 : Int) ≤ (i : Int) := by omega
      have z1 : (i : Int) < (p.length : Int) := by omega
      obtain ⟨pre, hpre⟩ : ∃ pre : List UInt8, pre = fpTo p i ++ (if 0 < i then [32, 124, 32] else []) := ⟨_, rfl⟩
      have HPRE : Hid (pre.length ≤ 30000003) := Lib.hid (by have := HLN.out i hi; rw [hpre, List.length_append]; split <;> simp <;> omega)
      have HFS2 : Hid (fpTo p (i + 1) = pre ++ fpRow r r.length) := Lib.hid (by rw [HFS.out, hpre, List.append_assoc])
      have HPE := Lib.hid hpre
      clear hrr har hx hpre
      by_cases hi0 : 0 < i
      · have hi1 : (0 : Int) < (i : Int) := by omega
        have hcat : s.size + (({ data := #[32, 124, 32] } : ByteArray)).size ≤ 9223372036854775807 := by show s.size + 3 ≤ _; omega
        have HS1 : Hid ((s ++ ({ data := #[32, 124, 32] } : ByteArray)).data.toList = pre) := Lib.hid (by rw [str_add, hs.out, HPE.out, if_pos hi0])
        obtain ⟨wi, rfl⟩ : ∃ wi : World, wi = wr := ⟨_, rfl⟩
        go_wp2_with fail
        go_loopw [3, 5] (fun sv kv wr => ∃ (k : Nat) (s2 : ByteArray), k ≤ r.length ∧ kv = .int .i64 (k : Int) ∧ sv = .string s2 ∧ Hid (s2.data.toList = pre ++ fpRow r k) ∧ Hid (Below w.heap.size w wr)) (fun _ kv _ => r.length - (intOf kv).toNat)
        case atStart => exact ⟨0, _, by omega, rfl, rfl, Lib.hid (by rw [HS1.out]; simp [fpRow]), hb⟩
        case round =>
          clear hyi hss
          obtain ⟨k, s2, hk, rfl, rfl, hs2, hb⟩ := hrel
          have hyi := (hb.out.cell (World.block_lt_of_cell? w _ HX.out)).trans HX.out
          have hss2 : s2.size ≤ 60000003 := by have h1 := HRL.out k hk; have h2 := HPRE.out; rw [str_size, hs2.out, List.length_append]; omega
          by_cases hlk : k < r.length
          · obtain ⟨xr, rfl, hxk⟩ := HR.out k hlk
            have hbx := HBR.out r[k] (List.getElem_mem hlk)
            rw [get_getD r k hlk] at hxk hbx
            have hyk := (hb.out.cell (World.block_lt_of_cell? w _ hxk)).trans hxk
            have HST := Lib.hid (show fpRow r (k + 1) = fpRow r k ++ ((if 0 < k then [32] else []) ++ (itoaB (r.getD k 0)).data.toList) from rfl)
            obtain ⟨y, hy⟩ : ∃ y, y = r.getD k 0 := ⟨_, rfl⟩
            rw [← hy] at hyk hbx HST
            have HF := Lib.hid (fun w' => specFI y hbx.1 hbx.2 w')
            have htl : (itoaB y).size ≤ 20 := by rw [str_size]; exact itoa_lenF hbx.1 hbx.2
            obtain ⟨t, ht⟩ : ∃ t, t = itoaB y := ⟨_, rfl⟩
            rw [← ht] at HF htl HST
            have z2 : (0 : Int) ≤ (k : Int) := by omega
            have z3 : (k : Int) < (r.length : Int) := by omega
            clear hy ht hxk hbx
            by_cases hk0 : 0 < k
            · have hk1 : (0 : Int) < (k : Int) := by omega
              have hcat2 : s2.size + (({ data := #[32] } : ByteArray)).size ≤ 9223372036854775807 := by show s2.size + 1 ≤ _; omega
              have hcat3 : (s2 ++ ({ data := #[32] } : ByteArray)).size + t.size ≤ 9223372036854775807 := by rw [ByteArray.size_append]; show s2.size + 1 + t.size ≤ _; omega
              go_wp2_with fail
              refine (HF.out _).mono ?_
              rintro e w5 ⟨rfl, b5⟩
              have hb5 := Lib.hid (hb.out.trans (b5.mono hb.out.size))
              clear b5
              go_wp2_with fail
              go_roundw
              case rel => exact ⟨k + 1, _, by omega, by go_num, rfl, Lib.hid (by rw [str_add, str_add, hs2.out, HST.out, if_pos hk0]; simp), hb5⟩
              case measure => simp [intOf]; omega
            · obtain rfl : k = 0 := by omega
              rw [Addr.add_zero'] at hyk
              have hcat3 : s2.size + t.size ≤ 9223372036854775807 := by omega
              go_wp2_with fail
              refine (HF.out _).mono ?_
              rintro e w5 ⟨rfl, b5⟩
              have hb5 := Lib.hid (hb.out.trans (b5.mono hb.out.size))
              clear b5
              go_wp2_with fail
              go_roundw
              case rel => exact ⟨1, _, by omega, rfl, rfl, Lib.hid (by rw [str_add, hs2.out, HST.out, if_neg (by omega)]; simp), hb5⟩
              case measure => simp [intOf]; omega
          · obtain rfl : k = r.length := by omega
            go_wp2_with fail
            go_roundw
            case rel => exact ⟨i + 1, _, by omega, by go_num, rfl, Lib.hid (by rw [hs2.out, HFS2.out]), hb⟩
            case measure => simp [intOf]; omega
      · have hi1 : ¬ (0 : Int) < (i : Int) := by omega
        have HS1 : Hid (s.data.toList = pre) := Lib.hid (by rw [hs.out, HPE.out, if_neg hi0, List.append_nil])
        obtain ⟨wi, rfl⟩ : ∃ wi : World, wi = wr := ⟨_, rfl⟩
        go_wp2_with fail
        go_loopw [3, 5] (fun sv kv wr => ∃ (k : Nat) (s2 : ByteArray), k ≤ r.length ∧ kv = .int .i64 (k : Int) ∧ sv = .string s2 ∧ Hid (s2.data.toList = pre ++ fpRow r k) ∧ Hid (Below w.heap.size w wr)) (fun _ kv _ => r.length - (intOf kv).toNat)
        case atStart => exact ⟨0, _, by omega, rfl, rfl, Lib.hid (by rw [HS1.out]; simp [fpRow]), hb⟩
        case round =>
          clear hyi hss
          obtain ⟨k, s2, hk, rfl, rfl, hs2, hb⟩ := hrel
          have hyi := (hb.out.cell (World.block_lt_of_cell? w _ HX.out)).trans HX.out
          have hss2 : s2.size ≤ 60000003 := by have h1 := HRL.out k hk; have h2 := HPRE.out; rw [str_size, hs2.out, List.length_append]; omega
          by_cases hlk : k < r.length
          · obtain ⟨xr, rfl, hxk⟩ := HR.out k hlk
            have hbx := HBR.out r[k] (List.getElem_mem hlk)
            rw [get_getD r k hlk] at hxk hbx
            have hyk := (hb.out.cell (World.block_lt_of_cell? w _ hxk)).trans hxk
            have HST := Lib.hid (show fpRow r (k + 1) = fpRow r k ++ ((if 0 < k then [32] else []) ++ (itoaB (r.getD k 0)).data.toList) from rfl)
            obtain ⟨y, hy⟩ : ∃ y, y = r.getD k 0 := ⟨_, rfl⟩
            rw [← hy] at hyk hbx HST
            have HF := Lib.hid (fun w' => specFI y hbx.1 hbx.2 w')
            have htl : (itoaB y).size ≤ 20 := by rw [str_size]; exact itoa_lenF hbx.1 hbx.2
            obtain ⟨t, ht⟩ : ∃ t, t = itoaB y := ⟨_, rfl⟩
            rw [← ht] at HF htl HST
            have z2 : (0 : Int) ≤ (k : Int) := by omega
            have z3 : (k : Int) < (r.length : Int) := by omega
            clear hy ht hxk hbx
            by_cases hk0 : 0 < k
            · have hk1 : (0 : Int) < (k : Int) := by omega
              have hcat2 : s2.size + (({ data := #[32] } : ByteArray)).size ≤ 9223372036854775807 := by show s2.size + 1 ≤ _; omega
              have hcat3 : (s2 ++ ({ data := #[32] } : ByteArray)).size + t.size ≤ 9223372036854775807 := by rw [ByteArray.size_append]; show s2.size + 1 + t.size ≤ _; omega
              go_wp2_with fail
              refine (HF.out _).mono ?_
              rintro e w5 ⟨rfl, b5⟩
              have hb5 := Lib.hid (hb.out.trans (b5.mono hb.out.size))
              clear b5
              go_wp2_with fail
              go_roundw
              case rel => exact ⟨k + 1, _, by omega, by go_num, rfl, Lib.hid (by rw [str_add, str_add, hs2.out, HST.out, if_pos hk0]; simp), hb5⟩
              case measure => simp [intOf]; omega
            · obtain rfl : k = 0 := by omega
              rw [Addr.add_zero'] at hyk
              have hcat3 : s2.size + t.size ≤ 9223372036854775807 := by omega
              go_wp2_with fail
              refine (HF.out _).mono ?_
              rintro e w5 ⟨rfl, b5⟩
              have hb5 := Lib.hid (hb.out.trans (b5.mono hb.out.size))
              clear b5
              go_wp2_with fail
              go_roundw
              case rel => exact ⟨1, _, by omega, rfl, rfl, Lib.hid (by rw [str_add, hs2.out, HST.out, if_neg (by omega)]; simp), hb5⟩
              case measure => simp [intOf]; omega
          · obtain rfl : k = r.length := by omega
            go_wp2_with fail
            go_roundw
            case rel => exact ⟨i + 1, _, by omega, by go_num, rfl, Lib.hid (by rw [hs2.out, HFS2.out]), hb⟩
            case measure => simp [intOf]; omega
    · obtain rfl : i = p.length := by omega
      by_cases he : fpTo p p.length = []
      · have HE : Hid (fmtP p = ⟨#[110, 111, 110, 101]⟩) := Lib.hid (by unfold fmtP; rw [if_pos he])
        have hse : s = ({ data := #[] } : ByteArray) := str_ext (by rw [hs.out, he])
        subst hse
        go_wp2_with fail
        go_ret
        exact ⟨ret_s HE.out, hb.out⟩
      · have HE : Hid (fmtP p = s) := Lib.hid (by unfold fmtP; rw [if_neg he]; apply str_ext; rw [hs.out])
        have hse : s.toList.isEmpty = false := by
          rw [ByteArray.toList_eq, hs.out]
          cases hq : fpTo p p.length with
          | nil => exact (he hq).elim
          | cons x t => rfl
        clear he
        go_wp2_with fail
        go_ret
        exact ⟨ret_s HE.out, hb.out⟩
end Go.Proofs.YtfndnaldgaaieaaGreatDoor
namespace Go.Proofs.YtfndnaldgaaieaaGreatDoor
open Go.RowKit

/-- A row of strings that the call owns. -/
def OwnT (w : World) (B : Nat) (v : Value) (xs : List ByteArray) : Prop := w.ownsRow B 9 1 v xs.length (xs.map Value.string)
theorem OwnT.made {w : World} {B : Nat} {v : Value} (h : w.ownsRow B 9 1 v 0 []) : OwnT w B v [] := h
theorem OwnT.snoc {w : World} {B : Nat} {v : Value} {xs : List ByteArray} {s : ByteArray} (h : w.ownsRow B 9 1 v (xs.length + 1) (xs.map Value.string ++ [.string s])) : OwnT w B v (xs ++ [s]) := by
  unfold OwnT; rw [List.map_append, List.length_append]; exact h
theorem OwnT.lt {w : World} {B : Nat} {v : Value} {xs : List ByteArray} (h : OwnT w B v xs) : ∀ k, v.ownBlock = some k → B ≤ k ∧ k < w.heap.size := World.ownsRow.lt h
theorem OwnT.below {w w' : World} {B C : Nat} {v : Value} {xs : List ByteArray} (h : OwnT w B v xs) (hb : Below C w w') (hC : ∀ k, v.ownBlock = some k → k < C) : OwnT w' B v xs := by
  refine ⟨h.1, ?_⟩
  rcases h.2 with hn | ⟨g, cap, cur, rfl, hB, hgg, rest⟩
  · exact .inl hn
  · exact .inr ⟨g, cap, cur, rfl, hB, (hb.block g (hC g rfl)).trans hgg, rest⟩
theorem infoStrP : (Tryz.prog.info? 9).map (fun i => (i.zero, i.size, i.bytes)) = some (some (.string ⟨#[]⟩), 1, 16) := by kernel_rfl
/-- What strings.Join gives. -/
def joinS (xs : List ByteArray) (sep : ByteArray) : ByteArray := ⟨(Lib.join (xs.map (·.data.toList)) sep.data.toList).toArray⟩
theorem joinOwn_any (B : Nat) (v : Value) (xs : List ByteArray) (sep : ByteArray) (w : World) (h : OwnT w B v xs) (hlen : (Lib.join (xs.map (·.data.toList)) sep.data.toList).length ≤ 140737488355328) (hN : xs.length ≤ 1048576) :
    Calls Tryz.prog 40 #[v, .string sep] w fun e w' => e = .returned (.string (joinS xs sep)) ∧ Below w.heap.size w w' := by
  rcases h.2 with ⟨rfl, h0⟩ | ⟨g, cap, cur, rfl, hB, hgg, hc, rest⟩
  · obtain rfl : xs = [] := List.eq_nil_of_length_eq_zero h0
    refine (Tryz.strings_Join_none none 0 sep w).mono ?_
    rintro e w' ⟨rfl, rfl⟩
    exact ⟨rfl, Below.refl _ _⟩
  · refine Tryz.strings_Join g 0 cap xs sep w (fun j x hx => ?_) (Array.getElem?_eq_some_iff.1 hgg).1 (by omega) hc hlen
    have hj : j < xs.length := (List.getElem?_eq_some_iff.1 hx).1
    rw [Nat.zero_add, World.ownsRow.cellAt (size := 1) h j (by omega), List.getElem?_map, hx]; rfl
theorem join_snoc (sep y : List UInt8) : ∀ (xs : List (List UInt8)), xs ≠ [] → Lib.join (xs ++ [y]) sep = Lib.join xs sep ++ (sep ++ y)
  | [], h => absurd rfl h
  | x :: r, _ => by
    rw [List.cons_append, Lib.join_cons, Lib.join_cons]
    unfold Lib.joinTail
    rw [List.map_append, List.flatten_append]
    simp [List.append_assoc]
theorem join_row (r : List Int) : ∀ k, k ≤ r.length → Lib.join (((r.take k).map itoaB).map (·.data.toList)) [32] = fpRow r k
  | 0, _ => by simp [fpRow, Lib.join_nil]
  | k + 1, hk => by
    have ih := join_row r k (by omega)
    rw [take_succ_getD r 0 k (by omega), List.map_append, List.map_append]
    unfold fpRow
    by_cases h0 : 0 < k
    · rw [List.map_singleton, List.map_singleton, join_snoc _ _ _ (by intro h; have := congrArg List.length h; rw [List.length_map, List.length_map, List.length_take, List.length_nil] at this; omega), ih, if_pos h0]
    · obtain rfl : k = 0 := by omega
      simp [Lib.join_one, fpRow]
/-- The text of a class. -/
def clsT (r : List Int) : ByteArray := ⟨(fpRow r r.length).toArray⟩
theorem joinS_row (r : List Int) : joinS (r.map itoaB) ⟨#[32]⟩ = clsT r := by
  have h := join_row r r.length (Nat.le_refl _)
  rw [List.take_length] at h
  unfold joinS clsT
  rw [show (⟨#[32]⟩ : ByteArray).data.toList = [32] from rfl, h]
theorem join_cls (p : List (List Int)) : ∀ i, i ≤ p.length → Lib.join (((p.take i).map clsT).map (·.data.toList)) [32, 124, 32] = fpTo p i
  | 0, _ => by simp [fpTo, Lib.join_nil]
  | i + 1, hi => by
    have ih := join_cls p i (by omega)
    rw [take_succ_getD p [] i (by omega), List.map_append, List.map_append]
    unfold fpTo
    by_cases h0 : 0 < i
    · rw [List.map_singleton, List.map_singleton, join_snoc _ _ _ (by intro h; have := congrArg List.length h; rw [List.length_map, List.length_map, List.length_take, List.length_nil] at this; omega), ih, if_pos h0]; rfl
    · obtain rfl : i = 0 := by omega
      simp [Lib.join_one, fpTo, clsT]
theorem joinS_cls (p : List (List Int)) : joinS (p.map clsT) ⟨#[32, 124, 32]⟩ = ⟨(fpTo p p.length).toArray⟩ := by
  have h := join_cls p p.length (Nat.le_refl _)
  rw [List.take_length] at h
  unfold joinS
  rw [show (⟨#[32, 124, 32]⟩ : ByteArray).data.toList = [32, 124, 32] from rfl, h]
set_option maxRecDepth 20000 in
set_option maxHeartbeats 3200000 in
theorem implFormatPartition_any (v : Value) (p : List (List Int)) (w : World) (hr : ReadSS w v p) (hl : p.length ≤ 1048576) (htot : tot p ≤ 1048576) (hbd : I64ss p) (hT : Tab w.heap.size w) :
    Calls Tryz.prog 9 #[v] w fun e w' => e = .returned (.string (fmtP p)) ∧ Below w.heap.size w w' := by
  have HT := Lib.hid hT
  clear hT
  obtain ⟨i0, hi, hz0, hz1, hz2⟩ := info_parts infoStrP
  have HI : Hid (_ ∧ _ ∧ _ ∧ _) := Lib.hid ⟨hi, hz0, hz1, hz2⟩
  clear hi hz0 hz1 hz2
  obtain ⟨a, cap, rfl, ha⟩ := hr
  have HA := Lib.hid ha
  have HBD := Lib.hid hbd
  have HLN := Lib.hid (show (fpTo p p.length).length ≤ 30000000 from by have := fpTo_len hbd p.length (Nat.le_refl _); rw [List.take_length] at this; omega)
  clear ha hbd
  go_enter Tryz.func9, Tryz.ntmps9
  go_wp2_with (at_make; refine wpList_make_own _ rfl _ _ 65 rfl w.heap.size 9 i0 (.string ⟨#[]⟩) 1 Tryz.underlying65 HI.out.1 HI.out.2.1 HI.out.2.2.1 .i64 .i64 _ p.length rfl rfl rfl (by rw [HI.out.2.2.2]; omega) (by unfold maxLen; omega) (Nat.le_refl _) ?_; intro w0 hown0 hgrow0; have hb0 := (Below.refl w.heap.size w).grown hgrow0 (Nat.le_refl _) (by simp); have ho0 := Lib.hid (OwnT.made hown0); clear hown0 hgrow0)
  go_loopw [3, 15] (fun cv iv wr => ∃ (i : Nat) (cs : List ByteArray), i ≤ p.length ∧ iv = .int .i64 (i : Int) ∧ Hid (cs = (p.take i).map clsT) ∧ Hid (OwnT wr w.heap.size cv cs) ∧ Below w.heap.size w wr) (fun _ iv _ => p.length - (intOf iv).toNat)
  case atStart => exact ⟨0, [], by omega, rfl, Lib.hid rfl, ho0, hb0⟩
  case round =>
    clear ho0 hb0
    obtain ⟨i, cs, hi, rfl, HCS, HO, hb⟩ := hrel
    obtain ⟨w1, hw1⟩ : ∃ w', w' = wr := ⟨_, rfl⟩
    rw [← hw1] at HO hb ⊢
    clear hw1
    obtain ⟨cv, hcv⟩ : ∃ cv, cv = u3 := ⟨_, rfl⟩
    rw [← hcv] at HO ⊢
    clear hcv
    have hcl : cs.length = i := by rw [HCS.out, List.length_map, List.length_take]; omega
    have hsz1 := hb.size
    by_cases hlt : i < p.length
    · obtain ⟨x, u, rfl, hx, hu⟩ := HA.out i hlt
      have hyi := (hb.cell (World.block_lt_of_cell? w _ hx)).trans hx
      have hlr := tot_get hlt
      have HFR := Lib.hid (fpRow_len (HBD.out i hlt) (p.getD i []).length (Nat.le_refl _))
      have HBR := Lib.hid (HBD.out i hlt)
      have HNEXT := Lib.hid (take_succ_getD p [] i hlt)
      obtain ⟨r, hrr⟩ : ∃ r, r = p.getD i [] := ⟨_, rfl⟩
      rw [← hrr] at hu hlr HFR HBR HNEXT
      clear hrr
      have hu1 := hu.kept hb
      obtain ⟨ar, cr, rfl, har⟩ := hu1
      have HR := Lib.hid har
      have z0 : (0 : Int) ≤ (i : Int) := by omega
      have z1 : (i : Int) < (p.length : Int) := by omega
      have HCL := Lib.hid hcl
      have HW1 := Lib.hid hb
      clear har hx hu hcl hb
      go_wp2_with (at_make; refine wpList_make_own _ rfl _ _ 65 rfl w1.heap.size 9 i0 (.string ⟨#[]⟩) 1 Tryz.underlying65 HI.out.1 HI.out.2.1 HI.out.2.2.1 .i64 .i64 _ r.length rfl rfl rfl (by rw [HI.out.2.2.2]; omega) (by unfold maxLen; omega) (Nat.le_refl _) ?_; intro w2 hown2 hgrow2; have hb2 := (Below.refl w1.heap.size w1).grown hgrow2 (Nat.le_refl _) (by simp); have ho2 := Lib.hid (OwnT.made hown2); clear hown2 hgrow2)
      go_loopw [6, 24] (fun rv kv wr => ∃ (k : Nat) (xs : List ByteArray), k ≤ r.length ∧ kv = .int .i64 (k : Int) ∧ Hid (xs = (r.take k).map itoaB) ∧ Hid (OwnT wr w1.heap.size rv xs) ∧ Below w1.heap.size w1 wr) (fun _ kv _ => r.length - (intOf kv).toNat)
      case atStart => exact ⟨0, [], by omega, rfl, Lib.hid rfl, ho2, hb2⟩
      case round =>
        clear ho2 hb2 hyi
        obtain ⟨k, xs, hk, rfl, HXS, HOX, hb⟩ := hrel
        obtain ⟨w3, hw3⟩ : ∃ w', w' = wr := ⟨_, rfl⟩
        rw [← hw3] at HOX hb ⊢
        clear hw3
        obtain ⟨rv, hrv⟩ : ∃ rv, rv = u6 := ⟨_, rfl⟩
        rw [← hrv] at HOX ⊢
        clear hrv
        have hxl : xs.length = k := by rw [HXS.out, List.length_map, List.length_take]; omega
        have hsz3 := hb.size
        by_cases hlk : k < r.length
        · obtain ⟨xr, rfl, hxk⟩ := HR.out k hlk
          have hbx := HBR.out r[k] (List.getElem_mem hlk)
          rw [get_getD r k hlk] at hxk hbx
          have hyk := (hb.cell (World.block_lt_of_cell? w1 _ hxk)).trans hxk
          have HST := Lib.hid (take_succ_getD r 0 k hlk)
          obtain ⟨y, hy⟩ : ∃ y, y = r.getD k 0 := ⟨_, rfl⟩
          rw [← hy] at hyk hbx HST
          have HF := Lib.hid (implFI y hbx.1 hbx.2 w.heap.size w3 (HT.out.on (HW1.out.trans (hb.mono hsz1))))
          have HXE : Hid (xs ++ [itoaB y] = (r.take (k + 1)).map itoaB) := Lib.hid (by rw [HST.out, List.map_append, HXS.out]; rfl)
          obtain ⟨t, ht⟩ : ∃ t, t = itoaB y := ⟨_, rfl⟩
          rw [← ht] at HF HXE
          have z2 : (0 : Int) ≤ (k : Int) := by omega
          have z3 : (k : Int) < (r.length : Int) := by omega
          have HXL := Lib.hid hxl
          have HB3 := Lib.hid hb
          clear hy ht hxk hbx hxl hb
          go_wp2_with fail
          refine HF.out.mono ?_
          rintro e w4 ⟨rfl, b4⟩
          have HO4 := Lib.hid (HOX.out.below b4 (fun k hk => (HOX.out.lt k hk).2))
          have HB4 := Lib.hid (HB3.out.trans (b4.mono HB3.out.size))
          have hs4 := HB4.out.size
          clear b4 hyk
          go_wp2_with (at_builtin; refine wpList_append_own _ rfl _ _ 65 rfl w1.heap.size 9 i0 (.string ⟨#[]⟩) 1 16 Tryz.underlying65 HI.out.1 HI.out.2.1 HI.out.2.2.1 HI.out.2.2.2 rfl (by decide) _ _ _ rfl (World.ownsRow.alloc HO4.out _) ⟨w4.heap.size, 0, none⟩ 1 1 [.string t] rfl rfl (cell_one_new _ _ _) (by intro u hu; simp at hu; subst hu; rfl) (by rw [HXL.out]; unfold maxLen; omega) (by rw [HXL.out]; omega) (by simp; omega) ?_; intro v' w6 hown6 hgr6 _)
          have ho6 := OwnT.snoc hown6
          have hb6 := (HB4.out.alloc (by omega) (.cells #[.string t] 9)).grown hgr6 (by simp; omega) (fun j hj => (HO4.out.lt j hj).1)
          clear hown6 hgr6
          go_roundw
          case rel => exact ⟨k + 1, _, by omega, by go_num, HXE, Lib.hid ho6, hb6⟩
          case measure => simp [intOf]; omega
        · obtain rfl : k = r.length := by omega
          have hjl : Lib.join (xs.map (·.data.toList)) (⟨#[32]⟩ : ByteArray).data.toList = fpRow r r.length := by
            rw [HXS.out]; exact join_row r r.length (Nat.le_refl _)
          have HJ := Lib.hid (joinOwn_any w1.heap.size rv xs ⟨#[32]⟩ w3 HOX.out (by rw [hjl]; have := HFR.out; omega) (by omega))
          have hjt : joinS xs ⟨#[32]⟩ = clsT r := by rw [HXS.out, List.take_length]; exact joinS_row r
          rw [hjt] at HJ
          have HC3 := Lib.hid (HO.out.below hb (fun k hk => (HO.out.lt k hk).2))
          have HB3 := Lib.hid (HW1.out.trans (hb.mono hsz1))
          have HCE : Hid (cs ++ [clsT r] = (p.take (i + 1)).map clsT) := Lib.hid (by rw [HNEXT.out, List.map_append, HCS.out]; rfl)
          obtain ⟨t, ht⟩ : ∃ t, t = clsT r := ⟨_, rfl⟩
          rw [← ht] at HJ HCE
          clear hjl hjt ht hb hxl
          go_wp2_with fail
          refine HJ.out.mono ?_
          rintro e w4 ⟨rfl, b4⟩
          have HO4 := Lib.hid (HC3.out.below b4 (fun k hk => (HC3.out.lt k hk).2))
          have HB4 := Lib.hid (HB3.out.trans (b4.mono HB3.out.size))
          have hs4 := HB4.out.size
          clear b4
          go_wp2_with (at_builtin; refine wpList_append_own _ rfl _ _ 65 rfl w.heap.size 9 i0 (.string ⟨#[]⟩) 1 16 Tryz.underlying65 HI.out.1 HI.out.2.1 HI.out.2.2.1 HI.out.2.2.2 rfl (by decide) _ _ _ rfl (World.ownsRow.alloc HO4.out _) ⟨w4.heap.size, 0, none⟩ 1 1 [.string t] rfl rfl (cell_one_new _ _ _) (by intro u hu; simp at hu; subst hu; rfl) (by rw [HCL.out]; unfold maxLen; omega) (by rw [HCL.out]; omega) (by simp; omega) ?_; intro v' w6 hown6 hgr6 _)
          have ho6 := OwnT.snoc hown6
          have hb6 := (HB4.out.alloc (by omega) (.cells #[.string t] 9)).grown hgr6 (by simp; omega) (fun j hj => (HO4.out.lt j hj).1)
          clear hown6 hgr6
          go_roundw
          case rel => exact ⟨i + 1, _, by omega, by go_num, HCE, Lib.hid ho6, hb6⟩
          case measure => simp [intOf]; omega
    · obtain rfl : i = p.length := by omega
      have hjl : Lib.join (cs.map (·.data.toList)) (⟨#[32, 124, 32]⟩ : ByteArray).data.toList = fpTo p p.length := by
        rw [HCS.out]; exact join_cls p p.length (Nat.le_refl _)
      have HJ := Lib.hid (joinOwn_any w.heap.size cv cs ⟨#[32, 124, 32]⟩ w1 HO.out (by rw [hjl]; have := HLN.out; omega) (by omega))
      have hjt : joinS cs ⟨#[32, 124, 32]⟩ = ⟨(fpTo p p.length).toArray⟩ := by rw [HCS.out, List.take_length]; exact joinS_cls p
      rw [hjt] at HJ
      clear hjl hjt
      by_cases hn : fpTo p p.length = []
      · have HE : Hid (fmtP p = ⟨#[110, 111, 110, 101]⟩) := Lib.hid (by unfold fmtP; rw [if_pos hn])
        rw [hn] at HJ
        clear hn
        go_wp2_with fail
        refine HJ.out.mono ?_
        rintro e w4 ⟨rfl, b4⟩
        have hb4 := hb.trans (b4.mono hsz1)
        clear b4
        go_wp2_with fail
        go_ret
        exact ⟨ret_s HE.out, hb4⟩
      · have HE : Hid (fmtP p = ⟨(fpTo p p.length).toArray⟩) := Lib.hid (by unfold fmtP; rw [if_neg hn])
        have hne : (⟨(fpTo p p.length).toArray⟩ : ByteArray).toList.isEmpty = false := by rw [ByteArray.toList_eq]; simpa using hn
        obtain ⟨t, ht⟩ : ∃ t : ByteArray, t = ⟨(fpTo p p.length).toArray⟩ := ⟨_, rfl⟩
        rw [← ht] at HJ HE hne
        clear hn ht
        go_wp2_with fail
        refine HJ.out.mono ?_
        rintro e w4 ⟨rfl, b4⟩
        have hb4 := hb.trans (b4.mono hsz1)
        clear b4
        go_wp2_with fail
        go_ret
        exact ⟨ret_s HE.out, hb4⟩
end Go.Proofs.YtfndnaldgaaieaaGreatDoor
namespace Go.Proofs.YtfndnaldgaaieaaGreatDoor
open Go.RowKit

theorem tog_no1 {q : List (List Int)} {f y : Int} (h : fcl q y = none) : inQ q f y = false := by
  unfold fcl at h; unfold inQ
  split at h
  · exact decide_eq_false (by omega)
  · cases h
theorem tog_no2 {q : List (List Int)} {f y c : Int} (h : fcl q y = some c) (hne : ¬ c = (fcl q f).getD 0) : inQ q f y = false := by
  unfold fcl at *; unfold inQ
  split at h
  · cases h
  · cases h
    refine decide_eq_false (fun ⟨h1, h2⟩ => hne ?_)
    rw [if_neg (by omega)]; exact h2
theorem tog_yes {q : List (List Int)} {f y c : Int} (h : fcl q y = some c) (he : c = (fcl q f).getD 0) (hf : y = f ∨ 0 ≤ clsI q f) : inQ q f y = true ∧ 0 ≤ clsI q f := by
  unfold fcl at *; unfold inQ
  split at h
  · cases h
  · cases h
    have h0 : 0 ≤ clsI q f := by
      rcases hf with rfl | h
      · omega
      · exact h
    rw [if_neg (by omega)] at he
    exact ⟨decide_eq_true ⟨by omega, he⟩, h0⟩
theorem fcl_get (q : List (List Int)) (x : Int) : ∃ d : Int, d = (fcl q x).getD 0 := ⟨_, rfl⟩

set_option maxHeartbeats 1600000 in
theorem areTogether_any (v : Value) (r : List Int) (b n : Nat) (q : List (List Int)) (w : World) (hr : ReadI w v r) (hl : r.length ≤ 1048576) (hm : MapI w b n (fcl q)) (hwf : ∀ x ∈ r, (Lit.int .i64 x).wf = true) (f : Int) (hf : f = r.getD 0 0) :
    Calls Tryz.prog 47 #[v, .map (some b)] w fun e w' => e = .returned (.bool (r.all (inQ q f))) ∧ w = w' := by
  obtain ⟨a, cap, rfl, ha⟩ := hr
  have HA := Lib.hid ha
  clear ha
  have HW := Lib.hid hwf
  clear hwf
  have HFE := Lib.hid hf
  clear hf
  have HMM := Lib.hid hm
  clear hm
  go_enter Tryz.func47, Tryz.ntmps47
  go_wp2_with fail
  go_loop [11] (fun iv => ∃ k : Nat, k ≤ r.length ∧ iv = .int .i64 (k : Int) ∧ Hid ((r.take k).all (inQ q f) = true) ∧ Hid (0 < k → 0 ≤ clsI q f)) (fun iv => r.length - (intOf iv).toNat)
  case atStart => exact ⟨0, by omega, rfl, Lib.hid rfl, Lib.hid (fun h => absurd h (Nat.lt_irrefl _))⟩
  case round =>
    obtain ⟨k, hk, rfl, hall, h0k⟩ := hrel
    by_cases hlt : k < r.length
    · obtain ⟨xr, rfl, hxk⟩ := HA.out k hlt
      obtain ⟨xr', hx0', hx0⟩ := HA.out 0 (by omega)
      obtain rfl := Option.some.inj hx0'
      clear hx0'
      rw [Addr.add_zero'] at hx0
      rw [get_getD r 0 (by omega), ← HFE.out] at hx0
      have HO2 := Lib.hid (fun h => all_snoc (p := inQ q f) hlt hall.out h)
      have HN2 := Lib.hid (fun h => all_not (p := inQ q f) hlt h)
      have HEQ : Hid (k = 0 → r[k] = f) := Lib.hid (fun h => by subst h; rw [get_getD r 0 hlt, HFE.out])
      have hyw := HW.out r[k] (List.getElem_mem _)
      have hfw := HW.out f (by rw [HFE.out, ← get_getD r 0 (by omega)]; exact List.getElem_mem _)
      obtain ⟨y, hy⟩ : ∃ y, y = r[k] := ⟨_, rfl⟩
      rw [← hy] at hxk hyw HO2 HN2 HEQ
      clear hy
      have hrun := mapI_run HMM.out f hfw
      obtain ⟨d, hd⟩ := fcl_get q f
      rw [← hd] at hrun
      have z0 : (0 : Int) ≤ (k : Int) := by omega
      have z1 : (k : Int) < (r.length : Int) := by omega
      have z4 : (0 : Int) < (r.length : Int) := by omega
      have z5 : 0 < r.length := by omega
      cases hc : fcl q y with
      | none =>
        have HX := Lib.hid (HN2.out (tog_no1 hc))
        have HC := Lib.hid hc
        clear hc hd
        go_wp2_with (at_lookup; refine mapI_look_none _ rfl _ _ rfl _ _ _ rfl HMM.out _ rfl hyw HC.out ?_)
        go_ret
        exact ⟨ret_b HX.out, rfl⟩
      | some c =>
        have HC := Lib.hid hc
        clear hc
        by_cases hcd : c = d
        · have hY := tog_yes HC.out (hcd.trans hd) (by
            rcases Nat.eq_zero_or_pos k with h | h
            · exact .inl (HEQ.out h)
            · exact .inr (h0k.out h))
          have HX := Lib.hid (HO2.out hY.1)
          have HZ := Lib.hid (fun (_ : 0 < k + 1) => hY.2)
          have hcd2 : (c != d) = false := by simpa using hcd
          clear hY hcd hd
          go_wp2_with (at_lookup; refine mapI_look_some _ rfl _ _ rfl _ _ _ rfl HMM.out _ _ rfl hyw HC.out ?_)
          go_round
          case rel => exact ⟨k + 1, by omega, by go_num, HX, HZ⟩
          case measure => simp [intOf]; omega
        · have HX := Lib.hid (HN2.out (tog_no2 HC.out (by rw [← hd]; exact hcd)))
          have hcd2 : (c != d) = true := by simpa using hcd
          clear hcd hd
          go_wp2_with (at_lookup; refine mapI_look_some _ rfl _ _ rfl _ _ _ rfl HMM.out _ _ rfl hyw HC.out ?_)
          go_ret
          exact ⟨ret_b HX.out, rfl⟩
    · obtain rfl : k = r.length := by omega
      have HX : Hid (r.all (inQ q f) = true) := Lib.hid (by have := hall.out; rwa [List.take_length] at this)
      go_wp2_with fail
      go_ret
      exact ⟨ret_b HX.out, rfl⟩
set_option maxHeartbeats 1600000 in
theorem implIsFiner_any (v v' : Value) (p q : List (List Int)) (w : World) (hr : ReadSS w v p) (hq : ReadSS w v' q) (hl : p.length ≤ 1048576) (ht : tot p ≤ 1048576) (hp : I64ss p) (hl' : q.length ≤ 1048576) (ht' : tot q ≤ 1048576) (hq' : I64ss q) :
    Calls Tryz.prog 16 #[v, v'] w fun e w' => e = .returned (.bool (finB p q)) ∧ Below w.heap.size w w' := by
  have HFC := Lib.hid (firstClasses_any v' q w hq hl' ht' hq')
  obtain ⟨a, cap, rfl, ha⟩ := hr
  obtain ⟨a', cap', rfl, -⟩ := hq
  have HA := Lib.hid ha
  have HTT := Lib.hid (fun i (hi : i < p.length) => tot_get hi)
  have HWF := Lib.hid (fun i (hi : i < p.length) x (hx : x ∈ p.getD i []) => I64ss.wf hp hi hx)
  clear ha hp hq'
  by_cases hq0 : q.length = 0
  · have hqz : ((q.length : Int) == 0) = true := by rw [hq0]; rfl
    have HE : Hid (((p.length : Int) == 0) = finB p q) := Lib.hid (by
      have hqe := List.eq_nil_of_length_eq_zero hq0
      subst hqe
      cases p with
      | nil => rfl
      | cons r t =>
        have : finB (r :: t) [] = false := rfl
        rw [this, beq_eq_false_iff_ne]
        simp only [List.length_cons]; omega)
    clear hq0
    go_enter Tryz.func16, Tryz.ntmps16
    go_wp2_with fail
    go_ret
    exact ⟨ret_b HE.out.symm, Below.refl _ _⟩
  · have hqz : ((q.length : Int) == 0) = false := by rw [beq_eq_false_iff_ne]; omega
    have HQ0 : Hid (q.isEmpty = false) := Lib.hid (by cases q; simp at hq0; rfl)
    clear hq0
    go_enter Tryz.func16, Tryz.ntmps16
    go_wp2_with fail
    refine HFC.out.mono ?_
    rintro e w1 ⟨rfl, hm, hb⟩
    have HMM := Lib.hid hm
    clear hm
    go_wp2_with fail
    go_loop [18] (fun iv => ∃ i : Nat, i ≤ p.length ∧ iv = .int .i64 (i : Int) ∧ Hid ((p.take i).all (finR q) = true)) (fun iv => p.length - (intOf iv).toNat)
    case atStart => exact ⟨0, by omega, rfl, Lib.hid rfl⟩
    case round =>
      obtain ⟨i, hi, rfl, hall⟩ := hrel
      by_cases hlt : i < p.length
      · obtain ⟨xa, u, rfl, hx, hu⟩ := HA.out i hlt
        replace hx := (hb.cell (World.block_lt_of_cell? w _ hx)).trans hx
        have hlr := HTT.out i hlt
        have HOK := Lib.hid (fun h => all_snoc (p := finR q) hlt hall.out h)
        have HNO := Lib.hid (fun h => all_not (p := finR q) hlt h)
        have hg : p[i] = p.getD i [] := by rw [List.getD_eq_getElem?_getD, List.getElem?_eq_getElem hlt]; rfl
        rw [hg] at HOK HNO
        have hw := HWF.out i hlt
        obtain ⟨r, hrr⟩ : ∃ r, r = p.getD i [] := ⟨_, rfl⟩
        rw [← hrr] at HOK HNO hu hlr hw
        have HTG := Lib.hid (areTogether_any u r w.heap.size 1048576 q w1 (hu.kept hb) (by omega) HMM.out hw _ rfl)
        have HFR : Hid (finR q r = r.all (inQ q (r.getD 0 0))) := Lib.hid (by unfold finR; rw [HQ0.out]; rfl)
        clear hg hrr hw
        obtain ⟨ar, cr, rfl, -⟩ := hu
        have z0 : (0 : Int) ≤ (i : Int) := by omega
        have z1 : (i : Int) < (p.length : Int) := by omega
        cases hro : r.all (inQ q (r.getD 0 0)) with
        | true =>
          rw [hro] at HTG HFR
          have HX := Lib.hid (HOK.out HFR.out)
          clear hro
          go_wp2_with fail
          refine HTG.out.mono ?_
          rintro e w' ⟨rfl, rfl⟩
          go_wp2_with fail
          go_round
          case rel => exact ⟨i + 1, by omega, by go_num, HX⟩
          case measure => simp [intOf]; omega
        | false =>
          rw [hro] at HTG HFR
          have HX := Lib.hid (HNO.out HFR.out)
          clear hro
          go_wp2_with fail
          refine HTG.out.mono ?_
          rintro e w' ⟨rfl, rfl⟩
          go_wp2_with fail
          go_ret
          exact ⟨ret_b (by unfold finB; rw [HX.out]), hb⟩
      · obtain rfl : i = p.length := by omega
        have HX : Hid (p.all (finR q) = true) := Lib.hid (by have := hall.out; rwa [List.take_length] at this)
        go_wp2_with fail
        go_ret
        exact ⟨ret_b (by unfold finB; rw [HX.out]), hb⟩
theorem isFiner_any3 (v v' : Value) (p q : List (List Int)) (w : World) (hr : ReadSS w v p) (hr' : ReadSS w v' q) (hl : p.length ≤ 1048576) (ht : tot p ≤ 1048576) (_hp : I64ss p) (hl' : q.length ≤ 1048576) (ht' : tot q ≤ 1048576) (_hq : I64ss q) :
    Calls Tryz.prog 23 #[v, v'] w fun e w' => e = .returned (.bool (finB p q)) ∧ Below w.heap.size w w' := isFiner_any2 v v' p q w hr hr' hl ht hl' ht'
end Go.Proofs.YtfndnaldgaaieaaGreatDoor
