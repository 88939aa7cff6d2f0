/- DecodeHex, the program's and the model's, by contract: both return the bytes that the digits stand for. Conditions: at most 2^20 bytes. -/
import Derived.Test.YtcjjlgkimklegaaDoorEncHex
import Derived.Lib.OthersKept
namespace Go.Proofs.YtcjjlgkimklegaaDoor
open Go.RowKit

theorem step_none {c : Int} {k : Nat} (he : ¬ hexN (k : Int) = c) (h : hexV c < 0 ∨ (k : Int) ≤ hexV c) : hexV c < 0 ∨ ((k + 1 : Nat) : Int) ≤ hexV c := by
  by_cases h0 : hexV c < 0
  · exact .inl h0
  · by_cases hk : hexV c = (k : Int)
    · exact absurd (by rw [← hk]; exact hexV_eq (by omega)) he
    · right; omega
/-! ### The pairs of digits -/
def dg (l : List UInt8) (j : Nat) : Int := hexV ((l.getD j 0).toNat : Int)
theorem dg_at (s : ByteArray) (k : Nat) (h : k < s.size) : dg s.data.toList k = hexV ((s[k]'h).toNat : Int) := by
  unfold dg
  rw [List.getD_eq_getElem?_getD, List.getElem?_eq_getElem (by rw [← str_size]; exact h)]; rfl
def two (l : List UInt8) (j : Nat) : Int := 16 * dg l (2 * j) + dg l (2 * j + 1)
def pr (l : List UInt8) (m : Nat) : List UInt8 := (List.range m).map fun j => UInt8.ofNat (two l j).toNat
theorem pr_succ (l : List UInt8) (m : Nat) : pr l (m + 1) = pr l m ++ [UInt8.ofNat (two l m).toNat] := by simp [pr, List.range_succ]
theorem pr_length (l : List UInt8) (m : Nat) : (pr l m).length = m := by simp [pr]
def AllDig (l : List UInt8) (k : Nat) : Prop := ∀ j, j < k → 0 ≤ dg l j
theorem AllDig.zero (l : List UInt8) : AllDig l 0 := fun j h => by omega
theorem AllDig.succ {l : List UInt8} {k : Nat} (h : AllDig l k) (hd : 0 ≤ dg l k) : AllDig l (k + 1) := fun j hj => by
  by_cases e : j = k
  · rw [e]; exact hd
  · exact h j (by omega)
def DH (l : List UInt8) (r : ByteArray) (ok : Bool) : Prop :=
  (l.length % 2 = 0 ∧ AllDig l l.length ∧ r = ⟨(pr l (l.length / 2)).toArray⟩ ∧ ok = true) ∨ (¬ (l.length % 2 = 0 ∧ AllDig l l.length) ∧ r = ⟨#[]⟩ ∧ ok = false)
theorem DH.unique {l : List UInt8} {r r' : ByteArray} {ok ok' : Bool} (h : DH l r ok) (h' : DH l r' ok') : r = r' ∧ ok = ok' := by
  rcases h with ⟨a, b, rfl, rfl⟩ | ⟨a, rfl, rfl⟩ <;> rcases h' with ⟨a', b', rfl, rfl⟩ | ⟨a', rfl, rfl⟩
  · exact ⟨rfl, rfl⟩
  · exact absurd ⟨a, b⟩ a'
  · exact absurd ⟨a', b'⟩ a
  · exact ⟨rfl, rfl⟩
theorem DH.odd {l : List UInt8} (h : l.length % 2 ≠ 0) : DH l ⟨#[]⟩ false := .inr ⟨fun x => h x.1, rfl, rfl⟩
theorem DH.bad {l : List UInt8} {k : Nat} (hk : k < l.length) (h : dg l k < 0) : DH l ⟨#[]⟩ false := .inr ⟨fun x => by have := x.2 k hk; omega, rfl, rfl⟩
def StrOk (P : ByteArray → Bool → Prop) (w : World) (e : Ending) (w' : World) : Prop := ∃ r ok, P r ok ∧ e = .returned (.tuple #[.string r, .bool ok]) ∧ Below w.heap.size w w'

theorem dg_bd (l : List UInt8) (k : Nat) : -1 ≤ dg l k ∧ dg l k ≤ 15 := hexV_bd _
/-! ### The program: in place, digit by digit -/
def cellAt (l : List UInt8) (i j : Nat) : Int := if 2 * j + 2 ≤ i then two l j else if 2 * j + 1 ≤ i then dg l (2 * j) else 0
def row (l : List UInt8) (n i : Nat) : List UInt8 := (List.range n).map fun j => UInt8.ofNat (cellAt l i j).toNat
theorem row_length (l : List UInt8) (n i : Nat) : (row l n i).length = n := by simp [row]
theorem row_zero (l : List UInt8) (n : Nat) : row l n 0 = List.replicate n 0 := by
  apply List.ext_getElem
  · simp [row]
  · intro j h1 h2; simp [row, cellAt]
theorem row_full (l : List UInt8) (n : Nat) : row l n (2 * n) = pr l n := by
  unfold row pr
  apply List.map_congr_left
  intro j hj
  rw [List.mem_range] at hj
  unfold cellAt; rw [if_pos (by omega)]
/-- What stands in the cell ahead of digit i, and what stands there behind it. -/
def oldN (l : List UInt8) (i : Nat) : Int := if i % 2 = 0 then 0 else dg l (i - 1)
theorem oldN_bd {l : List UInt8} {i : Nat} (h : AllDig l i) : 0 ≤ oldN l i ∧ oldN l i ≤ 15 := by
  unfold oldN
  split
  · omega
  · have := h (i - 1) (by omega); have := (hexV_bd ((l.getD (i - 1) 0).toNat : Int)).2; unfold dg at *; omega
theorem cell_old (l : List UInt8) (i : Nat) : cellAt l i (i / 2) = oldN l i := by
  unfold cellAt oldN
  by_cases h : i % 2 = 0
  · rw [if_neg (by omega), if_neg (by omega), if_pos h]
  · rw [if_neg (by omega), if_pos (by omega), if_neg h, show 2 * (i / 2) = i - 1 by omega]
theorem row_get {l : List UInt8} {n i : Nat} (h : AllDig l i) (hn : i / 2 < n) : (((row l n i)[i / 2]'(by rw [row_length]; exact hn)).toNat : Int) = oldN l i := by
  have hb := oldN_bd h
  simp only [row, List.getElem_map, List.getElem_range, cell_old]
  have : (oldN l i).toNat % 256 = (oldN l i).toNat := Nat.mod_eq_of_lt (by omega)
  simp [this]; omega
theorem row_set {l : List UInt8} {n i : Nat} : (row l n i).set (i / 2) (UInt8.ofNat (16 * oldN l i + dg l i).toNat) = row l n (i + 1) := by
  apply List.ext_getElem
  · simp [row]
  · intro j h1 h2
    rw [List.getElem_set]
    split
    · next h =>
      subst h
      simp only [row, List.getElem_map, List.getElem_range]
      congr 2
      unfold cellAt oldN two
      by_cases h : i % 2 = 0
      · rw [if_pos h, if_neg (by omega), if_pos (by omega), show 2 * (i / 2) = i by omega]; omega
      · rw [if_neg h, if_pos (by omega), show 2 * (i / 2) = i - 1 by omega, show i - 1 + 1 = i by omega]
    · next h =>
      simp only [row, List.getElem_map, List.getElem_range]
      congr 2
      unfold cellAt
      by_cases h3 : 2 * j + 2 ≤ i
      · rw [if_pos h3, if_pos (by omega)]
      · rw [if_neg h3, if_neg (by omega), if_neg (by omega), if_neg (by omega)]
theorem hexV_high {c : Int} (h : 128 ≤ c) : hexV c = -1 := by unfold hexV; rw [if_neg (by omega), if_neg (by omega)]

theorem OwnB.same {w w' : World} {B : Nat} {E : TypeId} {v : Value} {l : List UInt8} (h : OwnB w B E v l) (hh : ∀ k, v.ownBlock = some k → w'.heap[k]? = w.heap[k]?) : OwnB w' B E v l := by
  refine ⟨h.1, ?_⟩
  rcases h.2 with hn | ⟨g, cap, cur, rfl, hB, hgg, rest⟩
  · exact .inl hn
  · exact .inr ⟨g, cap, cur, rfl, hB, (hh g rfl).trans hgg, rest⟩
theorem iter_pos {w : World} {k : Nat} {s : ByteArray} {p : Nat} (h : w.heap[k]? = some (.stringIter s p)) : w.iterPos k = p := by simp [World.iterPos, h]
theorem decode_width (s : ByteArray) (pos : Nat) (h : pos < s.size) : 1 ≤ (Utf8.decode s pos).2 := by
  by_cases ha : (s[pos]'h).toNat < 128
  · rw [decode_ascii s pos h ha]; exact Nat.le_refl _
  · exact (decode_high s pos h (by omega)).2
set_option maxHeartbeats 800000 in
theorem implDH (s : ByteArray) (w : World) (hs : s.size ≤ 1048576) :
    Calls Tryd.prog 16 #[.string s] w (StrOk (DH s.data.toList) w) := by
  obtain ⟨i0, hi, hz0, hz1, hz2⟩ := info_parts info8h
  have HI : Hid (_ ∧ _ ∧ _ ∧ _) := Lib.hid ⟨hi, hz0, hz1, hz2⟩
  clear hi hz0 hz1 hz2
  by_cases hev : s.size % 2 = 0
  · have H0 : ((s.size : Int) % 2 != 0) = false := by simp; omega
    obtain ⟨n, hn⟩ : ∃ n, s.size = 2 * n := ⟨s.size / 2, by omega⟩
    have HN := Lib.hid hn
    have hn2 : ((s.size : Int) / 2) = (n : Int) := by omega
    clear hev hn
    go_enter Tryd.func16, Tryd.ntmps16
    go_wp2_with (at_make; refine wpList_make_full _ rfl _ _ 22 rfl w.heap.size 5 i0 (.int .u8 0) 1 Tryd.underlying22 HI.out.1 HI.out.2.1 HI.out.2.2.1 .i64 .i64 _ _ n rfl rfl rfl rfl (by rw [HI.out.2.2.2]; have := HN.out; omega) (by unfold maxLen; have := HN.out; omega) (Nat.le_refl _) ?_; intro w0 hown0 hgrow0)
    have hown := OwnB.full hown0
    have hb0 := (Below.refl w.heap.size w).grown hgrow0 (Nat.le_refl _) (by simp)
    have hlt0 := (OwnB.lt hown w.heap.size rfl).2
    clear hown0 hgrow0 hn2
    go_loopw [] (fun wr => ∃ pos : Nat, pos ≤ s.size ∧ wr.heap[w0.heap.size]? = some (.stringIter s pos) ∧ OwnB wr w.heap.size 5 (.slice (some ⟨w.heap.size, 0, none⟩) n n) (row s.data.toList n pos) ∧ AllDig s.data.toList pos ∧ Below w.heap.size w wr) (fun wr => s.size - wr.iterPos w0.heap.size)
    case atStart =>
      refine ⟨0, by omega, ?_, ?_, AllDig.zero _, ?_⟩
      · have := World.iter_heap w0 s 0
        simpa using this
      · rw [row_zero]; exact OwnB.alloc hown _
      · exact hb0.alloc hb0.size _
    case round =>
      obtain ⟨pos, hps, hit, ho, hall, hb⟩ := hrel
      by_cases hp : pos < s.size
      · by_cases ha : (s[pos]'hp).toNat < 128
        · have hnx : ∀ ty, (Instr.next (.pointer (some ⟨w0.heap.size, 0, none⟩)) true ty).run Tryd.prog wr = _ := fun ty => Lib.run_next_ascii_at wr w0.heap.size s pos ty hit hp ha
          have hdg := dg_at s pos hp
          have ho2 : OwnB (wr.iterAt w0.heap.size s (pos + 1)) w.heap.size 5 (.slice (some ⟨w.heap.size, 0, none⟩) n n) (row s.data.toList n pos) := ho.same (fun k hk => Lib.iterAt_other wr _ k s _ (by simp [Value.ownBlock] at hk; omega))
          have hit2 := Lib.iterAt_heap wr w0.heap.size s pos (pos + 1) hit
          have hb2 := Lib.below_iterAt hb (k := w0.heap.size) (by omega) s (pos + 1)
          have HD := Lib.hid hdg
          have HA := Lib.hid ha
          clear hdg ha
          by_cases h1 : dg s.data.toList pos < 0
          · have HC : Hid (∀ w, Calls Tryd.prog 27 #[.int .i32 ((s[pos]'hp).toNat : Int)] w fun e w' => e = .returned (.int .i64 (dg s.data.toList pos)) ∧ w = w') :=
              Lib.hid fun w => by rw [HD.out]; exact hexValue_any _ w (by omega) (by have := HA.out; omega)
            go_wp2_with fail
            refine (HC.out _).mono ?_
            rintro e w' ⟨rfl, rfl⟩
            go_wp2_with fail
            go_ret2
            exact ⟨_, _, DH.bad (by rw [← str_size]; exact hp) h1, rfl, hb2⟩
          · have HC : Hid (∀ w, Calls Tryd.prog 27 #[.int .i32 ((s[pos]'hp).toNat : Int)] w fun e w' => e = .returned (.int .i64 (dg s.data.toList pos)) ∧ w = w') :=
              Lib.hid fun w => by rw [HD.out]; exact hexValue_any _ w (by omega) (by have := HA.out; omega)
            obtain ⟨c1, c2⟩ := oldN_bd hall
            obtain ⟨c3, c4⟩ := dg_bd s.data.toList pos
            have hpn : pos / 2 < n := by have := HN.out; omega
            have hcell := ho2.cell (pos / 2) (by rw [row_length]; exact hpn)
            rw [row_get hall hpn] at hcell
            have hfz := ho2.frozen (pos / 2)
            have z0 : (0 : Int) ≤ (pos : Int) / 2 := by omega
            have z1 : (pos : Int) / 2 < (n : Int) := by omega
            go_wp2_with fail
            refine (HC.out _).mono ?_
            rintro e w' ⟨rfl, rfl⟩
            go_wp2_with fail
            have hor : bits .or .u8 (oldN s.data.toList pos * 16) (dg s.data.toList pos) = 16 * oldN s.data.toList pos + dg s.data.toList pos := by
              rw [u8_or_add 4 (by omega) (by omega) (by omega) (by omega) (by omega) (by omega)]; omega
            rw [hor]
            have ho3 := OwnB.store ho2 (pos / 2) (x := 16 * oldN s.data.toList pos + dg s.data.toList pos) (by omega) (by omega)
            rw [row_set] at ho3
            have hit3 := (Below.heap_setCell _ ⟨w.heap.size, pos / 2, none⟩ (.int .u8 (16 * oldN s.data.toList pos + dg s.data.toList pos)) w0.heap.size (by simp; omega)).trans hit2
            have hb3 := hb2.setCell (p := ⟨w.heap.size, pos / 2, none⟩) (Nat.le_refl _) (.int .u8 (16 * oldN s.data.toList pos + dg s.data.toList pos))
            go_roundw
            case rel => exact ⟨pos + 1, by omega, hit3, ho3, hall.succ (by omega), hb3⟩
            case measure => rw [iter_pos hit3, iter_pos hit]; omega
        · have hnx : ∀ ty, (Instr.next (.pointer (some ⟨w0.heap.size, 0, none⟩)) true ty).run Tryd.prog wr = _ := fun ty => Lib.run_next_any_at wr w0.heap.size s pos ty hit hp
          have hb2 := Lib.below_iterAt hb (k := w0.heap.size) (by omega) s (pos + (Utf8.decode s pos).2)
          have hhi := (decode_high s pos hp (by omega)).1
          have hle := decode_le s pos
          have HC : Hid (∀ w, Calls Tryd.prog 27 #[.int .i32 ((Utf8.decode s pos).1 : Int)] w fun e w' => e = .returned (.int .i64 (-1)) ∧ w = w') :=
            Lib.hid fun w => by have := hexValue_any ((Utf8.decode s pos).1 : Int) w (by omega) (by omega); rwa [hexV_high (by omega)] at this
          have HB : Hid (dg s.data.toList pos < 0) := Lib.hid (by rw [dg_at s pos hp, hexV_high (by omega)]; omega)
          clear hhi hle
          go_wp2_with fail
          refine (HC.out _).mono ?_
          rintro e w' ⟨rfl, rfl⟩
          go_wp2_with fail
          go_ret2
          exact ⟨_, _, DH.bad (by rw [← str_size]; exact hp) HB.out, rfl, hb2⟩
      · have hnx : ∀ ty, (Instr.next (.pointer (some ⟨w0.heap.size, 0, none⟩)) true ty).run Tryd.prog wr = _ := fun ty => Lib.run_next_end_at wr w0.heap.size s pos ty hit hp
        have hall' : AllDig s.data.toList s.data.toList.length := fun j hj => hall j (by rw [← str_size] at hj; omega)
        have HALL := Lib.hid hall'
        have HP : Hid (pos = 2 * n) := Lib.hid (by have := HN.out; omega)
        have hconv := fun (wx : World) (v : Value) (x : List UInt8) (h : OwnB wx w.heap.size 5 v x) => OwnB.conv (P := Tryd.prog) Tryd.underlying22 Tryd.underlying5 Tryd.underlying9 h
        have hc := hconv wr _ _ ho
        clear hconv hall'
        go_wp2_with fail
        go_ret2
        have hl : s.data.toList.length = 2 * n := by rw [← str_size]; exact HN.out
        exact ⟨_, _, .inl ⟨by omega, HALL.out, by rw [HP.out, row_full, hl]; simp, rfl⟩, rfl, hb⟩
  · have H0 : ((s.size : Int) % 2 != 0) = true := by simp; omega
    have HE := Lib.hid hev
    clear hev
    go_enter Tryd.func16, Tryd.ntmps16
    go_wp2_with fail
    go_ret2
    exact ⟨_, _, DH.odd (by rw [← str_size]; exact HE.out), rfl, Below.refl _ _⟩
end Go.Proofs.YtcjjlgkimklegaaDoor
