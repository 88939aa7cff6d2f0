/- The program's FormatPartition, by contract. Conditions: as stated; the library's table of powers of ten reads as its initialiser lays it. -/
import Derived.Test.YtkaalgbcdcbgoaaDoorParF
import Derived.Test.YtkaalgbcdcbgoaaDoorFmt2
namespace Go.Proofs.YtkaalgbcdcbgoaaDoor
open Go.RowKit

/-- A row of strings that the call owns. -/
def OwnT (w : World) (B : Nat) (v : Value) (xs : List ByteArray) : Prop := w.ownsRow B 9 1 v xs.length (xs.map Value.string)
theorem OwnT.made {w : World} {B : Nat} {v : Value} (h : w.ownsRow B 9 1 v 0 []) : OwnT w B v [] := h
theorem OwnT.snoc {w : World} {B : Nat} {v : Value} {xs : List ByteArray} {s : ByteArray} (h : w.ownsRow B 9 1 v (xs.length + 1) (xs.map Value.string ++ [.string s])) : OwnT w B v (xs ++ [s]) := by
  unfold OwnT; rw [List.map_append, List.length_append]; exact h
theorem OwnT.lt {w : World} {B : Nat} {v : Value} {xs : List ByteArray} (h : OwnT w B v xs) : ∀ k, v.ownBlock = some k → B ≤ k ∧ k < w.heap.size := World.ownsRow.lt h
theorem OwnT.below {w w' : World} {B C : Nat} {v : Value} {xs : List ByteArray} (h : OwnT w B v xs) (hb : Below C w w') (hC : ∀ k, v.ownBlock = some k → k < C) : OwnT w' B v xs := by
  refine ⟨h.1, ?_⟩
  rcases h.2 with hn | ⟨g, cap, cur, rfl, hB, hgg, rest⟩
  · exact .inl hn
  · exact .inr ⟨g, cap, cur, rfl, hB, (hb.block g (hC g rfl)).trans hgg, rest⟩
theorem infoStrP : (Tryd.prog.info? 9).map (fun i => (i.zero, i.size, i.bytes)) = some (some (.string ⟨#[]⟩), 1, 16) := by kernel_rfl
/-- What strings.Join gives. -/
def joinS (xs : List ByteArray) (sep : ByteArray) : ByteArray := ⟨(Lib.join (xs.map (·.data.toList)) sep.data.toList).toArray⟩
theorem joinOwn_any (B : Nat) (v : Value) (xs : List ByteArray) (sep : ByteArray) (w : World) (h : OwnT w B v xs) (hlen : (Lib.join (xs.map (·.data.toList)) sep.data.toList).length ≤ 140737488355328) (hN : xs.length ≤ 1048576) :
    Calls Tryd.prog 13 #[v, .string sep] w fun e w' => e = .returned (.string (joinS xs sep)) ∧ Below w.heap.size w w' := by
  rcases h.2 with ⟨rfl, h0⟩ | ⟨g, cap, cur, rfl, hB, hgg, hc, rest⟩
  · obtain rfl : xs = [] := List.eq_nil_of_length_eq_zero h0
    refine (Tryd.strings_Join_none none 0 sep w).mono ?_
    rintro e w' ⟨rfl, rfl⟩
    exact ⟨rfl, Below.refl _ _⟩
  · refine Tryd.strings_Join g 0 cap xs sep w (fun j x hx => ?_) (Array.getElem?_eq_some_iff.1 hgg).1 (by omega) hc hlen
    have hj : j < xs.length := (List.getElem?_eq_some_iff.1 hx).1
    rw [Nat.zero_add, World.ownsRow.cellAt (size := 1) h j (by omega), List.getElem?_map, hx]; rfl
theorem join_snoc (sep y : List UInt8) : ∀ (xs : List (List UInt8)), xs ≠ [] → Lib.join (xs ++ [y]) sep = Lib.join xs sep ++ (sep ++ y)
  | [], h => absurd rfl h
  | x :: r, _ => by
    rw [List.cons_append, Lib.join_cons, Lib.join_cons]
    unfold Lib.joinTail
    rw [List.map_append, List.flatten_append]
    simp [List.append_assoc]
theorem join_row (r : List Int) : ∀ k, k ≤ r.length → Lib.join (((r.take k).map itoaB).map (·.data.toList)) [32] = fpRow r k
  | 0, _ => by simp [fpRow, Lib.join_nil]
  | k + 1, hk => by
    have ih := join_row r k (by omega)
    rw [take_succ_getD r 0 k (by omega), List.map_append, List.map_append]
    unfold fpRow
    by_cases h0 : 0 < k
    · rw [List.map_singleton, List.map_singleton, join_snoc _ _ _ (by intro h; have := congrArg List.length h; rw [List.length_map, List.length_map, List.length_take, List.length_nil] at this; omega), ih, if_pos h0]
    · obtain rfl : k = 0 := by omega
      simp [Lib.join_one, fpRow]
/-- The text of a class. -/
def clsT (r : List Int) : ByteArray := ⟨(fpRow r r.length).toArray⟩
theorem joinS_row (r : List Int) : joinS (r.map itoaB) ⟨#[32]⟩ = clsT r := by
  have h := join_row r r.length (Nat.le_refl _)
  rw [List.take_length] at h
  unfold joinS clsT
  rw [show (⟨#[32]⟩ : ByteArray).data.toList = [32] from rfl, h]
theorem join_cls (p : List (List Int)) : ∀ i, i ≤ p.length → Lib.join (((p.take i).map clsT).map (·.data.toList)) [32, 124, 32] = fpTo p i
  | 0, _ => by simp [fpTo, Lib.join_nil]
  | i + 1, hi => by
    have ih := join_cls p i (by omega)
    rw [take_succ_getD p [] i (by omega), List.map_append, List.map_append]
    unfold fpTo
    by_cases h0 : 0 < i
    · rw [List.map_singleton, List.map_singleton, join_snoc _ _ _ (by intro h; have := congrArg List.length h; rw [List.length_map, List.length_map, List.length_take, List.length_nil] at this; omega), ih, if_pos h0]; rfl
    · obtain rfl : i = 0 := by omega
      simp [Lib.join_one, fpTo, clsT]
theorem joinS_cls (p : List (List Int)) : joinS (p.map clsT) ⟨#[32, 124, 32]⟩ = ⟨(fpTo p p.length).toArray⟩ := by
  have h := join_cls p p.length (Nat.le_refl _)
  rw [List.take_length] at h
  unfold joinS
  rw [show (⟨#[32, 124, 32]⟩ : ByteArray).data.toList = [32, 124, 32] from rfl, h]
set_option maxRecDepth 20000 in
set_option maxHeartbeats 3200000 in
theorem implFormatPartition_any (v : Value) (p : List (List Int)) (w : World) (hr : ReadSS w v p) (hl : p.length ≤ 1048576) (htot : tot p ≤ 1048576) (hbd : I64ss p) (hT : Tab w.heap.size w) :
    Calls Tryd.prog 7 #[v] w fun e w' => e = .returned (.string (fmtP p)) ∧ Below w.heap.size w w' := by
  have HT := Lib.hid hT
  clear hT
  obtain ⟨i0, hi, hz0, hz1, hz2⟩ := info_parts infoStrP
  have HI : Hid (_ ∧ _ ∧ _ ∧ _) := Lib.hid ⟨hi, hz0, hz1, hz2⟩
  clear hi hz0 hz1 hz2
  obtain ⟨a, cap, rfl, ha⟩ := hr
  have HA := Lib.hid ha
  have HBD := Lib.hid hbd
  have HLN := Lib.hid (show (fpTo p p.length).length ≤ 30000000 from by have := fpTo_len hbd p.length (Nat.le_refl _); rw [List.take_length] at this; omega)
  clear ha hbd
  go_enter Tryd.func7, Tryd.ntmps7
  go_wp2_with (at_make; refine wpList_make_own _ rfl _ _ 32 rfl w.heap.size 9 i0 (.string ⟨#[]⟩) 1 Tryd.underlying32 HI.out.1 HI.out.2.1 HI.out.2.2.1 .i64 .i64 _ p.length rfl rfl rfl (by rw [HI.out.2.2.2]; omega) (by unfold maxLen; omega) (Nat.le_refl _) ?_; intro w0 hown0 hgrow0; have hb0 := (Below.refl w.heap.size w).grown hgrow0 (Nat.le_refl _) (by simp); have ho0 := Lib.hid (OwnT.made hown0); clear hown0 hgrow0)
  go_loopw [3, 15] (fun cv iv wr => ∃ (i : Nat) (cs : List ByteArray), i ≤ p.length ∧ iv = .int .i64 (i : Int) ∧ Hid (cs = (p.take i).map clsT) ∧ Hid (OwnT wr w.heap.size cv cs) ∧ Below w.heap.size w wr) (fun _ iv _ => p.length - (intOf iv).toNat)
  case atStart => exact ⟨0, [], by omega, rfl, Lib.hid rfl, ho0, hb0⟩
  case round =>
    clear ho0 hb0
    obtain ⟨i, cs, hi, rfl, HCS, HO, hb⟩ := hrel
    obtain ⟨w1, hw1⟩ : ∃ w', w' = wr := ⟨_, rfl⟩
    rw [← hw1] at HO hb ⊢
    clear hw1
    obtain ⟨cv, hcv⟩ : ∃ cv, cv = u3 := ⟨_, rfl⟩
    rw [← hcv] at HO ⊢
    clear hcv
    have hcl : cs.length = i := by rw [HCS.out, List.length_map, List.length_take]; omega
    have hsz1 := hb.size
    by_cases hlt : i < p.length
    · obtain ⟨x, u, rfl, hx, hu⟩ := HA.out i hlt
      have hyi := (hb.cell (World.block_lt_of_cell? w _ hx)).trans hx
      have hlr := tot_get hlt
      have HFR := Lib.hid (fpRow_len (HBD.out i hlt) (p.getD i []).length (Nat.le_refl _))
      have HBR := Lib.hid (HBD.out i hlt)
      have HNEXT := Lib.hid (take_succ_getD p [] i hlt)
      obtain ⟨r, hrr⟩ : ∃ r, r = p.getD i [] := ⟨_, rfl⟩
      rw [← hrr] at hu hlr HFR HBR HNEXT
      clear hrr
      have hu1 := hu.kept hb
      obtain ⟨ar, cr, rfl, har⟩ := hu1
      have HR := Lib.hid har
      have z0 : (0 : Int) ≤ (i : Int) := by omega
      have z1 : (i : Int) < (p.length : Int) := by omega
      have HCL := Lib.hid hcl
      have HW1 := Lib.hid hb
      clear har hx hu hcl hb
      go_wp2_with (at_make; refine wpList_make_own _ rfl _ _ 32 rfl w1.heap.size 9 i0 (.string ⟨#[]⟩) 1 Tryd.underlying32 HI.out.1 HI.out.2.1 HI.out.2.2.1 .i64 .i64 _ r.length rfl rfl rfl (by rw [HI.out.2.2.2]; omega) (by unfold maxLen; omega) (Nat.le_refl _) ?_; intro w2 hown2 hgrow2; have hb2 := (Below.refl w1.heap.size w1).grown hgrow2 (Nat.le_refl _) (by simp); have ho2 := Lib.hid (OwnT.made hown2); clear hown2 hgrow2)
      go_loopw [6, 24] (fun rv kv wr => ∃ (k : Nat) (xs : List ByteArray), k ≤ r.length ∧ kv = .int .i64 (k : Int) ∧ Hid (xs = (r.take k).map itoaB) ∧ Hid (OwnT wr w1.heap.size rv xs) ∧ Below w1.heap.size w1 wr) (fun _ kv _ => r.length - (intOf kv).toNat)
      case atStart => exact ⟨0, [], by omega, rfl, Lib.hid rfl, ho2, hb2⟩
      case round =>
        clear ho2 hb2 hyi
        obtain ⟨k, xs, hk, rfl, HXS, HOX, hb⟩ := hrel
        obtain ⟨w3, hw3⟩ : ∃ w', w' = wr := ⟨_, rfl⟩
        rw [← hw3] at HOX hb ⊢
        clear hw3
        obtain ⟨rv, hrv⟩ : ∃ rv, rv = u6 := ⟨_, rfl⟩
        rw [← hrv] at HOX ⊢
        clear hrv
        have hxl : xs.length = k := by rw [HXS.out, List.length_map, List.length_take]; omega
        have hsz3 := hb.size
        by_cases hlk : k < r.length
        · obtain ⟨xr, rfl, hxk⟩ := HR.out k hlk
          have hbx := HBR.out r[k] (List.getElem_mem hlk)
          rw [get_getD r k hlk] at hxk hbx
          have hyk := (hb.cell (World.block_lt_of_cell? w1 _ hxk)).trans hxk
          have HST := Lib.hid (take_succ_getD r 0 k hlk)
          obtain ⟨y, hy⟩ : ∃ y, y = r.getD k 0 := ⟨_, rfl⟩
          rw [← hy] at hyk hbx HST
          have HF := Lib.hid (implFI y hbx.1 hbx.2 w.heap.size w3 (HT.out.on (HW1.out.trans (hb.mono hsz1))))
          have HXE : Hid (xs ++ [itoaB y] = (r.take (k + 1)).map itoaB) := Lib.hid (by rw [HST.out, List.map_append, HXS.out]; rfl)
          obtain ⟨t, ht⟩ : ∃ t, t = itoaB y := ⟨_, rfl⟩
          rw [← ht] at HF HXE
          have z2 : (0 : Int) ≤ (k : Int) := by omega
          have z3 : (k : Int) < (r.length : Int) := by omega
          have HXL := Lib.hid hxl
          have HB3 := Lib.hid hb
          clear hy ht hxk hbx hxl hb
          go_wp2_with fail
          refine HF.out.mono ?_
          rintro e w4 ⟨rfl, b4⟩
          have HO4 := Lib.hid (HOX.out.below b4 (fun k hk => (HOX.out.lt k hk).2))
          have HB4 := Lib.hid (HB3.out.trans (b4.mono HB3.out.size))
          have hs4 := HB4.out.size
          clear b4 hyk
          go_wp2_with (at_builtin; refine wpList_append_own _ rfl _ _ 32 rfl w1.heap.size 9 i0 (.string ⟨#[]⟩) 1 16 Tryd.underlying32 HI.out.1 HI.out.2.1 HI.out.2.2.1 HI.out.2.2.2 rfl (by decide) _ _ _ rfl (World.ownsRow.alloc HO4.out _) ⟨w4.heap.size, 0, none⟩ 1 1 [.string t] rfl rfl (cell_one_new _ _ _) (by intro u hu; simp at hu; subst hu; rfl) (by rw [HXL.out]; unfold maxLen; omega) (by rw [HXL.out]; omega) (by simp; omega) ?_; intro v' w6 hown6 hgr6 _)
          have ho6 := OwnT.snoc hown6
          have hb6 := (HB4.out.alloc (by omega) (.cells #[.string t] 9)).grown hgr6 (by simp; omega) (fun j hj => (HO4.out.lt j hj).1)
          clear hown6 hgr6
          go_roundw
          case rel => exact ⟨k + 1, _, by omega, by go_num, HXE, Lib.hid ho6, hb6⟩
          case measure => simp [intOf]; omega
        · obtain rfl : k = r.length := by omega
          have hjl : Lib.join (xs.map (·.data.toList)) (⟨#[32]⟩ : ByteArray).data.toList = fpRow r r.length := by
            rw [HXS.out]; exact join_row r r.length (Nat.le_refl _)
          have HJ := Lib.hid (joinOwn_any w1.heap.size rv xs ⟨#[32]⟩ w3 HOX.out (by rw [hjl]; have := HFR.out; omega) (by omega))
          have hjt : joinS xs ⟨#[32]⟩ = clsT r := by rw [HXS.out, List.take_length]; exact joinS_row r
          rw [hjt] at HJ
          have HC3 := Lib.hid (HO.out.below hb (fun k hk => (HO.out.lt k hk).2))
          have HB3 := Lib.hid (HW1.out.trans (hb.mono hsz1))
          have HCE : Hid (cs ++ [clsT r] = (p.take (i + 1)).map clsT) := Lib.hid (by rw [HNEXT.out, List.map_append, HCS.out]; rfl)
          obtain ⟨t, ht⟩ : ∃ t, t = clsT r := ⟨_, rfl⟩
          rw [← ht] at HJ HCE
          clear hjl hjt ht hb hxl
          go_wp2_with fail
          refine HJ.out.mono ?_
          rintro e w4 ⟨rfl, b4⟩
          have HO4 := Lib.hid (HC3.out.below b4 (fun k hk => (HC3.out.lt k hk).2))
          have HB4 := Lib.hid (HB3.out.trans (b4.mono HB3.out.size))
          have hs4 := HB4.out.size
          clear b4
          go_wp2_with (at_builtin; refine wpList_append_own _ rfl _ _ 32 rfl w.heap.size 9 i0 (.string ⟨#[]⟩) 1 16 Tryd.underlying32 HI.out.1 HI.out.2.1 HI.out.2.2.1 HI.out.2.2.2 rfl (by decide) _ _ _ rfl (World.ownsRow.alloc HO4.out _) ⟨w4.heap.size, 0, none⟩ 1 1 [.string t] rfl rfl (cell_one_new _ _ _) (by intro u hu; simp at hu; subst hu; rfl) (by rw [HCL.out]; unfold maxLen; omega) (by rw [HCL.out]; omega) (by simp; omega) ?_; intro v' w6 hown6 hgr6 _)
          have ho6 := OwnT.snoc hown6
          have hb6 := (HB4.out.alloc (by omega) (.cells #[.string t] 9)).grown hgr6 (by simp; omega) (fun j hj => (HO4.out.lt j hj).1)
          clear hown6 hgr6
          go_roundw
          case rel => exact ⟨i + 1, _, by omega, by go_num, HCE, Lib.hid ho6, hb6⟩
          case measure => simp [intOf]; omega
    · obtain rfl : i = p.length := by omega
      have hjl : Lib.join (cs.map (·.data.toList)) (⟨#[32, 124, 32]⟩ : ByteArray).data.toList = fpTo p p.length := by
        rw [HCS.out]; exact join_cls p p.length (Nat.le_refl _)
      have HJ := Lib.hid (joinOwn_any w.heap.size cv cs ⟨#[32, 124, 32]⟩ w1 HO.out (by rw [hjl]; have := HLN.out; omega) (by omega))
      have hjt : joinS cs ⟨#[32, 124, 32]⟩ = ⟨(fpTo p p.length).toArray⟩ := by rw [HCS.out, List.take_length]; exact joinS_cls p
      rw [hjt] at HJ
      clear hjl hjt
      by_cases hn : fpTo p p.length = []
      · have HE : Hid (fmtP p = ⟨#[110, 111, 110, 101]⟩) := Lib.hid (by unfold fmtP; rw [if_pos hn])
        rw [hn] at HJ
        clear hn
        go_wp2_with fail
        refine HJ.out.mono ?_
        rintro e w4 ⟨rfl, b4⟩
        have hb4 := hb.trans (b4.mono hsz1)
        clear b4
        go_wp2_with fail
        go_ret
        exact ⟨ret_s HE.out, hb4⟩
      · have HE : Hid (fmtP p = ⟨(fpTo p p.length).toArray⟩) := Lib.hid (by unfold fmtP; rw [if_neg hn])
        have hne : (⟨(fpTo p p.length).toArray⟩ : ByteArray).toList.isEmpty = false := by rw [ByteArray.toList_eq]; simpa using hn
        obtain ⟨t, ht⟩ : ∃ t : ByteArray, t = ⟨(fpTo p p.length).toArray⟩ := ⟨_, rfl⟩
        rw [← ht] at HJ HE hne
        clear hn ht
        go_wp2_with fail
        refine HJ.out.mono ?_
        rintro e w4 ⟨rfl, b4⟩
        have hb4 := hb.trans (b4.mono hsz1)
        clear b4
        go_wp2_with fail
        go_ret
        exact ⟨ret_s HE.out, hb4⟩
end Go.Proofs.YtkaalgbcdcbgoaaDoor
