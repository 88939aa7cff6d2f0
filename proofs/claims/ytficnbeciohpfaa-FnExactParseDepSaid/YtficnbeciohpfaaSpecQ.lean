/- The model's l2Cut and l3Value, by contract. Conditions: as stated. -/
import Derived.Test.YtficnbeciohpfaaCut
namespace Go.Proofs.Ytficnbeciohpfaa
open Go.RowKit

theorem infoZ : (Try.prog.info? 9).map (fun i => (i.zero, i.size, i.bytes)) = some (some (.string ⟨#[]⟩), 1, 16) := by kernel_rfl
def strV (l : List UInt8) : Value := .string ⟨l.toArray⟩
/-- The slice value v owns these strings. -/
def OwnZ (w : World) (B : Nat) (v : Value) (ls : List (List UInt8)) : Prop := w.ownsRow B 9 1 v ls.length (ls.map strV)
theorem OwnZ.snoc {w : World} {B : Nat} {v : Value} {ls : List (List UInt8)} {p : List UInt8} (h : w.ownsRow B 9 1 v (ls.length + 1) (ls.map strV ++ [strV p])) : OwnZ w B v (ls ++ [p]) := by
  unfold OwnZ; rw [List.length_append, List.map_append]; exact h
theorem one_str (p : List UInt8) : ∀ u ∈ [strV p], u.oneCell' = true := by intro u hu; simp at hu; subst hu; rfl
/-- The slice value v can be read: it holds these strings. -/
def ReadZ (w : World) (v : Value) (ls : List (List UInt8)) : Prop :=
  ∃ a cap, v = .slice a ls.length cap ∧ ∀ i, i < ls.length → ∃ x, a = some x ∧ w.cell? (x.add i) = some (strV (ls.getD i []))
theorem OwnZ.read {w : World} {B : Nat} {v : Value} {ls : List (List UInt8)} (h : OwnZ w B v ls) : ReadZ w v ls := by
  rcases ownsRow_shape h with ⟨rfl, hn⟩ | ⟨g, cap, rfl, -, -, -⟩
  · exact ⟨none, 0, by rw [hn], fun i hi => by omega⟩
  · refine ⟨_, cap, rfl, fun i hi => ⟨_, rfl, ?_⟩⟩
    rw [add_zero_off, World.ownsRow.cellAt h i (by omega)]
    simp [hi]
theorem ReadZ.kept {w w' : World} {v : Value} {ls : List (List UInt8)} (h : ReadZ w v ls) (hb : Below w.heap.size w w') : ReadZ w' v ls := by
  obtain ⟨a, cap, hv, hc⟩ := h
  refine ⟨a, cap, hv, fun i hi => ?_⟩
  obtain ⟨x, hx, hcell⟩ := hc i hi
  exact ⟨x, hx, (hb.cell (World.block_lt_of_cell? w _ hcell)).trans hcell⟩
def RetZ (ls : List (List UInt8)) (w : World) (e : Ending) (w' : World) : Prop := ∃ v, e = .returned v ∧ OwnZ w' w.heap.size v ls ∧ Below w.heap.size w w'
theorem sub_one (s : ByteArray) (i : Nat) (h : i < s.size) : (s.extract i (i + 1)).data.toList = [s[i]'h] := by
  rw [ByteArray.data_extract, Array.toList_extract, List.extract_eq_take_drop, show i + 1 - i = 1 by omega]
  have hl : i < s.data.toList.length := by simpa using h
  rw [List.drop_eq_getElem_cons hl]
  rfl
theorem strV_eq (s : ByteArray) : Value.string s = strV s.data.toList := rfl
set_option maxHeartbeats 1600000 in
theorem l2Cut_any (s : ByteArray) (b : UInt8) (w : World) (hs : s.size ≤ 1048576) :
    Calls Try.prog 46 #[.string s, .int .u8 (b.toNat : Int)] w (RetZ (cutL b s.data.toList) w) := by
  obtain ⟨i0, hi, hz0, hz1, hz2⟩ := info_parts infoZ
  have HI : Hid (_ ∧ _ ∧ _ ∧ _) := Lib.hid ⟨hi, hz0, hz1, hz2⟩
  clear hi hz0 hz1 hz2
  have HCL := Lib.hid (cutL_len b s.data.toList)
  have ho0 : OwnZ (w.alloc (.cells #[] 9)) w.heap.size (.slice (some ⟨w.heap.size, 0, none⟩) 0 0) [] := World.ownsRow_made w #[] 0 (Nat.le_refl _) (by unfold maxLen; omega) rfl
  go_enter Try.func46, Try.ntmps46
  go_wp2_with fail
  go_loopw [5, 6, 7] (fun ov pv iv wr => ∃ (i : Nat) (O : List (List UInt8)) (p : ByteArray), i ≤ s.size ∧ iv = .int .i64 (i : Int) ∧ pv = .string p ∧ p.size ≤ i ∧ O.length ≤ i ∧ Hid (cutL b s.data.toList = O ++ glue p.data.toList (cutL b (s.data.toList.drop i))) ∧ Hid (OwnZ wr w.heap.size ov O) ∧ Below w.heap.size w wr) (fun _ _ iv _ => s.size - (intOf iv).toNat)
  case atStart => exact ⟨0, [], ⟨#[]⟩, by omega, rfl, rfl, Nat.le_refl _, Nat.le_refl _, Lib.hid (by rw [List.drop_zero, List.nil_append]; exact (glue_nil _ (cutL_ne _ _)).symm), Lib.hid ho0, (Below.refl _ _).alloc (Nat.le_refl _) _⟩
  case round =>
    clear ho0
    obtain ⟨i, O, p, hi, rfl, rfl, hp, hO, hC, HO, hb⟩ := hrel
    by_cases hlt : i < s.size
    · have hl : i < s.data.toList.length := by simpa using hlt
      have HC := Lib.hid (cutL_at b s.data.toList i hl)
      have hg : s.data.toList[i] = s[i] := rfl
      rw [hg] at HC
      by_cases he : s[i] = b
      · have hbe : ((s[i].toNat : Int) == (b.toNat : Int)) = true := by simp [he]
        have HN : Hid (cutL b s.data.toList = (O ++ [p.data.toList]) ++ glue [] (cutL b (s.data.toList.drop (i + 1)))) := Lib.hid (by
          rw [hC.out, HC.out, if_pos he, glue_nil _ (cutL_ne _ _)]; simp [glue])
        clear he hg HC
        go_wp2_with (at_builtin; refine wpList_append_own _ rfl _ _ 76 rfl w.heap.size 9 i0 (.string ⟨#[]⟩) 1 16 Try.underlying76 HI.out.1 HI.out.2.1 HI.out.2.2.1 HI.out.2.2.2 rfl (by decide) _ _ _ rfl (World.ownsRow.alloc HO.out _) ⟨wr.heap.size, 0, none⟩ 1 1 [strV p.data.toList] rfl rfl (cell_one_new _ _ _) (one_str _) (by unfold maxLen; omega) (by omega) (le_alloc hb (Nat.le_refl _) _) ?_; intro v' w1 hown' hgrow _)
        have ho' := Lib.hid (OwnZ.snoc hown')
        have hb' := (hb.alloc hb.size (.cells #[.string p] 9)).grown hgrow (by simp; have := hb.size; omega) (fun k hk => (World.ownsRow.lt HO.out k hk).1)
        clear hown' hgrow
        go_wp2_with fail
        go_roundw
        case rel => exact ⟨i + 1, O ++ [p.data.toList], ⟨#[]⟩, by omega, by go_num, rfl, Nat.zero_le _, by simp; omega, HN, ho', hb'⟩
        case measure => simp [intOf]; omega
      · have hbe : ((s[i].toNat : Int) == (b.toNat : Int)) = false := by
          rw [beq_eq_false_iff_ne]; intro e; apply he; exact UInt8.toNat_inj.1 (by omega)
        have HN : Hid (cutL b s.data.toList = O ++ glue (p.data.toList ++ [s[i]]) (cutL b (s.data.toList.drop (i + 1)))) := Lib.hid (by
          rw [hC.out, HC.out, if_neg he, glue_glue _ _ _ (cutL_ne _ _)])
        have HSB := Lib.hid (sub_one s i hlt)
        have hsz : (s.extract i (i + 1)).size = 1 := by rw [str_size, HSB.out]; rfl
        clear he hg HC
        go_wp2_with fail
        go_roundw
        case rel => exact ⟨i + 1, O, _, by omega, by go_num, rfl, by rw [str_size, str_add, List.length_append, HSB.out, ← str_size]; simp; omega, by omega, Lib.hid (by rw [HN.out, str_add, HSB.out]), HO, hb⟩
        case measure => simp [intOf]; omega
    · obtain rfl : i = s.size := by omega
      have HN : Hid (cutL b s.data.toList = O ++ [p.data.toList]) := Lib.hid (by
        rw [hC.out, show s.data.toList.drop s.size = [] from List.drop_eq_nil_of_le (by rw [str_size]; exact Nat.le_refl _)]; simp [cutL, glue])
      go_wp2_with (at_builtin; refine wpList_append_own _ rfl _ _ 76 rfl w.heap.size 9 i0 (.string ⟨#[]⟩) 1 16 Try.underlying76 HI.out.1 HI.out.2.1 HI.out.2.2.1 HI.out.2.2.2 rfl (by decide) _ _ _ rfl (World.ownsRow.alloc HO.out _) ⟨wr.heap.size, 0, none⟩ 1 1 [strV p.data.toList] rfl rfl (cell_one_new _ _ _) (one_str _) (by unfold maxLen; omega) (by omega) (le_alloc hb (Nat.le_refl _) _) ?_; intro v' w1 hown' hgrow _)
      have ho' := Lib.hid (OwnZ.snoc hown')
      have hb' := (hb.alloc hb.size (.cells #[.string p] 9)).grown hgrow (by simp; have := hb.size; omega) (fun k hk => (World.ownsRow.lt HO.out k hk).1)
      clear hown' hgrow
      go_wp2_with fail
      go_ret
      exact ⟨_, rfl, by rw [HN.out]; exact ho'.out, hb'⟩
end Go.Proofs.Ytficnbeciohpfaa
