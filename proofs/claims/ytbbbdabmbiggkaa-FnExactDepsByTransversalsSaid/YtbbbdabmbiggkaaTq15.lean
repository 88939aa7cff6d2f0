/- Texts of this claim, merged: TrK, TrD, TrE, TrF, ImB. Conditions: as stated. -/
import Derived.Test.YtbbbdabmbiggkaaTq12
import Derived.Test.YtbbbdabmbiggkaaTq14
import Derived.Deep.AppendLies
import Derived.Deep.RegionLaw
import Derived.Laws.OwnMore
import Derived.Test.YtbbbdabmbiggkaaTq10
namespace Go.Proofs.Ytbbbdabmbiggkaa
open Go.RowKit

/-- x has a column in common with e, as the program asks. -/
def hx9 (e x : Int) : Bool := bits .and .i64 x e != 0
/-- What stands for x in the end. -/
def one9 (e x : Int) : List Int := if hx9 e x = true then [x] else grwOne e x 5
def fin9 (e : Int) (L : List Int) : List Int := L.flatMap (one9 e)
/-- How many do not hit. -/
def non9 (e : Int) (L : List Int) : Nat := (L.filter fun x => !hx9 e x).length
theorem grwOne_bits (e y : Int) : ∀ k, grwOne e y k = (memN e.toNat k).map fun j => bits .or .i64 y (2 ^ j.toNat)
  | 0 => rfl
  | k + 1 => by
    unfold grwOne
    rw [memN_succ, grwOne_bits e y k]
    split
    · rw [List.map_append]; rfl
    · rfl
theorem grwOne_mems {E : Nat} (hE : E < 32) (y : Int) : grwOne (E : Int) y 5 = (mems (E : Int)).map fun j => bits .or .i64 y (2 ^ j.toNat) := by
  rw [grwOne_bits]
  unfold mems
  rw [if_pos (by omega)]
theorem grwOne_len5 (e y : Int) : (grwOne e y 5).length ≤ 5 := by
  rw [grwOne_bits, List.length_map]
  exact memN_len _ _
theorem or_hit9 : ∀ (E y : Fin 32) (j : Fin 5), bitB E.val j.val = true → hx9 ((E.val : Nat) : Int) (bits .or .i64 ((y.val : Nat) : Int) (2 ^ j.val)) = true ∧ valB (bits .or .i64 ((y.val : Nat) : Int) (2 ^ j.val)) = true := by decide +kernel
theorem grwOne_hit {E Y : Nat} (hE : E < 32) (hY : Y < 32) : ∀ z ∈ grwOne (E : Int) (Y : Int) 5, hx9 (E : Int) z = true ∧ valB z = true := by
  intro z hz
  obtain ⟨j, hj, hb, rfl⟩ := (grwOne_mem _ _ _ _).1 hz
  exact or_hit9 ⟨E, hE⟩ ⟨Y, hY⟩ ⟨j, hj⟩ hb
theorem fin9_all {e : Int} : ∀ {L : List Int}, (∀ z ∈ L, hx9 e z = true) → fin9 e L = L
  | [], _ => rfl
  | x :: L, h => by
    unfold fin9
    rw [List.flatMap_cons]
    have h1 := h x (List.mem_cons_self ..)
    unfold one9
    rw [if_pos h1]
    exact congrArg (x :: ·) (fin9_all fun z hz => h z (List.mem_cons_of_mem _ hz))
theorem fin9_app (e : Int) (a b : List Int) : fin9 e (a ++ b) = fin9 e a ++ fin9 e b := List.flatMap_append
/-- The set at place i replaced. -/
def rep9 (e : Int) (L : List Int) (i : Nat) : List Int := L.take i ++ grwOne e (L.getD i 0) 5 ++ L.drop (i + 1)
theorem split9 (L : List Int) (i : Nat) (h : i < L.length) : L = L.take i ++ [L.getD i 0] ++ L.drop (i + 1) := by
  have e : L.getD i 0 = L[i] := by rw [List.getD_eq_getElem?_getD, List.getElem?_eq_getElem h]; rfl
  rw [e, List.append_assoc]
  show L = L.take i ++ (L[i] :: L.drop (i + 1))
  rw [← List.drop_eq_getElem_cons h, List.take_append_drop]
theorem rep9_fin {E : Nat} {L : List Int} {i : Nat} (hE : E < 32) (hL : ∀ z ∈ L, valB z = true) (h : i < L.length) (hn : hx9 (E : Int) (L.getD i 0) = false) : fin9 (E : Int) (rep9 (E : Int) L i) = fin9 (E : Int) L := by
  obtain ⟨Y, hY, hY2⟩ := valN (hL _ (mem_getD.2 ⟨i, h, rfl⟩))
  conv => rhs; rw [split9 L i h]
  unfold rep9
  rw [fin9_app, fin9_app, fin9_app, fin9_app]
  congr 2
  rw [hY, fin9_all fun z hz => (grwOne_hit hE hY2 z hz).1]
  unfold fin9
  rw [List.flatMap_cons, List.flatMap_nil, List.append_nil]
  unfold one9
  rw [hY] at hn
  rw [if_neg (by rw [hn]; exact Bool.false_ne_true)]
theorem rep9_val {E : Nat} {L : List Int} {i : Nat} (hE : E < 32) (hL : ∀ z ∈ L, valB z = true) (h : i < L.length) : ∀ z ∈ rep9 (E : Int) L i, valB z = true := by
  intro z hz
  unfold rep9 at hz
  rcases List.mem_append.1 hz with hz | hz
  · rcases List.mem_append.1 hz with hz | hz
    · exact hL z (List.mem_of_mem_take hz)
    · obtain ⟨Y, hY, hY2⟩ := valN (hL _ (mem_getD.2 ⟨i, h, rfl⟩))
      rw [hY] at hz
      exact (grwOne_hit hE hY2 z hz).2
  · exact hL z (List.mem_of_mem_drop hz)
theorem non9_app (e : Int) (a b : List Int) : non9 e (a ++ b) = non9 e a + non9 e b := by unfold non9; rw [List.filter_append, List.length_append]
theorem non9_all {e : Int} {L : List Int} (h : ∀ z ∈ L, hx9 e z = true) : non9 e L = 0 := by
  unfold non9
  rw [List.length_eq_zero_iff, List.filter_eq_nil_iff]
  intro z hz
  rw [h z hz]
  decide
theorem rep9_non {E : Nat} {L : List Int} {i : Nat} (hE : E < 32) (hL : ∀ z ∈ L, valB z = true) (h : i < L.length) (hn : hx9 (E : Int) (L.getD i 0) = false) : non9 (E : Int) (rep9 (E : Int) L i) + 1 = non9 (E : Int) L ∧ (rep9 (E : Int) L i).length ≤ L.length + 4 := by
  obtain ⟨Y, hY, hY2⟩ := valN (hL _ (mem_getD.2 ⟨i, h, rfl⟩))
  constructor
  · conv => rhs; rw [split9 L i h]
    unfold rep9
    rw [non9_app, non9_app, non9_app, non9_app]
    have h1 : non9 (E : Int) (grwOne (E : Int) (L.getD i 0) 5) = 0 := by rw [hY]; exact non9_all fun z hz => (grwOne_hit hE hY2 z hz).1
    have h2 : non9 (E : Int) [L.getD i 0] = 1 := by
      unfold non9
      rw [List.filter_cons, if_pos (by rw [hn]; rfl)]
      rfl
    omega
  · unfold rep9
    rw [List.length_append, List.length_append, List.length_take, List.length_drop]
    have := grwOne_len5 (E : Int) (L.getD i 0)
    omega
theorem non9_le (e : Int) (L : List Int) : non9 e L ≤ L.length := List.length_filter_le _ _
/-- How many sets may stand in the end. -/
def wt9 (e : Int) : Nat → Nat
  | 0 => 0
  | n + 1 => wt9 e n + (one9 e (n : Int)).length
theorem wt9_fin : ∀ E : Fin 32, wt9 ((E.val : Nat) : Int) 32 ≤ 100 := by decide +kernel
theorem fin9_wt (e : Int) (f : Nat → Bool) : ∀ n, (fin9 e (lstTo f n)).length ≤ wt9 e n
  | 0 => Nat.le_refl _
  | n + 1 => by
    have ih := fin9_wt e f n
    have h : lstTo f (n + 1) = if f n = true then lstTo f n ++ [(n : Int)] else lstTo f n := rfl
    rw [h]
    unfold wt9
    split
    · rw [fin9_app, List.length_append]
      unfold fin9 at *
      rw [List.flatMap_cons, List.flatMap_nil, List.append_nil]
      omega
    · omega
theorem fin9_mem (e z : Int) (L : List Int) : z ∈ fin9 e L ↔ ∃ x ∈ L, z ∈ one9 e x := List.mem_flatMap
theorem grwTo_fin (l : List Int) (e z : Int) : z ∈ grwTo l e l.length ↔ z ∈ fin9 e l := by
  rw [grwTo_mem, fin9_mem]
  constructor
  · rintro ⟨t, ht, h⟩
    refine ⟨_, mem_getD.2 ⟨t, ht, rfl⟩, ?_⟩
    unfold one9 hx9
    rcases h with ⟨h1, rfl⟩ | ⟨h1, h2⟩
    · rw [if_pos h1]; exact List.mem_singleton.2 rfl
    · rw [if_neg (by rw [h1]; exact Bool.false_ne_true)]
      exact (grwOne_mem _ _ _ 5).2 h2
  · rintro ⟨x, hx, h⟩
    obtain ⟨t, ht, rfl⟩ := mem_getD.1 hx
    refine ⟨t, ht, ?_⟩
    unfold one9 hx9 at h
    split at h
    · rename_i h1
      exact .inl ⟨h1, List.mem_singleton.1 h⟩
    · rename_i h1
      exact .inr ⟨by simpa using h1, (grwOne_mem _ _ _ 5).1 h⟩
theorem fin9_val {E : Nat} (hE : E < 32) {L : List Int} (hL : ∀ z ∈ L, valB z = true) : ∀ z ∈ fin9 (E : Int) L, valB z = true := by
  intro z hz
  obtain ⟨x, hx, h⟩ := (fin9_mem _ _ _).1 hz
  obtain ⟨Y, rfl, hY⟩ := valN (hL x hx)
  unfold one9 at h
  split at h
  · rw [List.mem_singleton.1 h]; exact hL _ hx
  · exact (grwOne_hit hE hY z h).2
theorem lst_val (l : List Int) : ∀ z ∈ lstF (memF l), valB z = true := by
  intro z hz
  obtain ⟨j, hj, -, rfl⟩ := (lstF_mem _ _).1 hz
  exact val_nat hj
theorem lst_mem {l : List Int} (h : ∀ z ∈ l, valB z = true) (z : Int) : z ∈ lstF (memF l) ↔ z ∈ l := by
  rw [lstF_mem]
  constructor
  · rintro ⟨j, -, h1, rfl⟩
    unfold memF at h1
    rwa [decide_eq_true_iff] at h1
  · intro hz
    obtain ⟨X, rfl, hX⟩ := valN (h z hz)
    exact ⟨X, hX, by unfold memF; rwa [decide_eq_true_iff], rfl⟩
theorem minS_same {a b : List Int} (ha : setsOk a = true) (hb : setsOk b = true) (h : ∀ z, z ∈ a ↔ z ∈ b) : minS a = minS b := by
  refine ascI_unique _ _ (minS_asc _) (minS_asc _) fun z => ?_
  rw [← minS_eq, ← minS_eq, unsS_mem _ _ ha, unsS_mem _ _ hb, h z]
  have hx : ∀ c d : List Int, (∀ z, z ∈ c ↔ z ∈ d) → (∀ i, i < c.length → (c.getD i 0 != z && subS (c.getD i 0) z) = false) → ∀ i, i < d.length → (d.getD i 0 != z && subS (d.getD i 0) z) = false := fun c d hcd hc i hi => by
    obtain ⟨t, ht, e⟩ := mem_getD.1 ((hcd _).2 (mem_getD.2 ⟨i, hi, rfl⟩))
    rw [e]
    exact hc t ht
  exact ⟨fun ⟨h1, h2⟩ => ⟨h1, hx a b h h2⟩, fun ⟨h1, h2⟩ => ⟨h1, hx b a (fun z => (h z).symm) h2⟩⟩
/-- The program's list and the model's have the same smallest sets. -/
theorem grow_eq {E : Nat} (hE : E < 32) {l : List Int} (hl : setsOk l = true) : setsOk (fin9 (E : Int) (lstF (memF l))) = true ∧ minS (fin9 (E : Int) (lstF (memF l))) = grwL l (E : Int) := by
  have hv : ∀ z ∈ l, valB z = true := by
    unfold setsOk at hl
    rw [Bool.and_eq_true, List.all_eq_true] at hl
    exact hl.1
  have h1 : setsOk (fin9 (E : Int) (lstF (memF l))) = true := by
    unfold setsOk
    rw [Bool.and_eq_true, List.all_eq_true, decide_eq_true_iff]
    exact ⟨fin9_val hE (lst_val l), Nat.le_trans (fin9_wt _ _ 32) (wt9_fin ⟨E, hE⟩)⟩
  have hm : ∀ z, z ∈ fin9 (E : Int) (lstF (memF l)) ↔ z ∈ ddTo (grwTo l (E : Int) l.length) (grwTo l (E : Int) l.length).length := fun z => by
    rw [dd_mem, grwTo_fin, fin9_mem, fin9_mem]
    exact ⟨fun ⟨x, hx, h⟩ => ⟨x, (lst_mem hv x).1 hx, h⟩, fun ⟨x, hx, h⟩ => ⟨x, (lst_mem hv x).2 hx, h⟩⟩
  have h2 : setsOk (ddTo (grwTo l (E : Int) l.length) (grwTo l (E : Int) l.length).length) = true := asc_ok (ddTo_asc _ _) fun y hy => fin9_val hE (lst_val l) y ((hm y).2 hy)
  refine ⟨h1, ?_⟩
  unfold grwL
  rw [hl, val_nat hE, Bool.true_and, if_pos rfl]
  exact minS_same h1 h2 hm
theorem setsOk_i64 {l : List Int} (h : ∀ z ∈ l, valB z = true) : I64s l := fun x hx => by
  obtain ⟨X, rfl, hX⟩ := valN (h x hx)
  omega
end Go.Proofs.Ytbbbdabmbiggkaa
namespace Go.Proofs.Ytbbbdabmbiggkaa
open Go.RowKit

theorem grwOne_len (e y : Int) : ∀ k, (grwOne e y k).length ≤ k
  | 0 => by simp [grwOne]
  | k + 1 => by
    have := grwOne_len e y k
    unfold grwOne
    split
    · rw [List.length_append, List.length_singleton]; omega
    · omega
theorem grwTo_len (l : List Int) (e : Int) : ∀ i, (grwTo l e i).length ≤ 5 * i
  | 0 => by simp [grwTo]
  | i + 1 => by
    have := grwTo_len l e i
    have := grwOne_len e (l.getD i 0) 5
    unfold grwTo
    split
    · rw [List.length_append, List.length_singleton]; omega
    · rw [List.length_append]; omega
theorem ddTo_len (l : List Int) : ∀ i, (ddTo l i).length ≤ i
  | 0 => by simp [ddTo]
  | i + 1 => by
    have := ddTo_len l i
    have := put4_len (ddTo l i) (l.getD i 0)
    unfold ddTo
    omega
end Go.Proofs.Ytbbbdabmbiggkaa
namespace Go.Proofs.Ytbbbdabmbiggkaa
open Go.RowKit

section
set_option maxRecDepth 20000
set_option maxHeartbeats 3200000
theorem grow9_any (v : Value) (L : List Int) (e : Int) (w : World) (hr : ReadI w v L) (hl : L.length ≤ 1048576) :
    Calls Try.prog 25 #[v, .int .i64 e] w (RetI (grwL L e) w) := by
  obtain ⟨i0, hi, hz0, hz1, hz2⟩ := info_parts info3i
  have HI : Hid (_ ∧ _ ∧ _ ∧ _) := Lib.hid ⟨hi, hz0, hz1, hz2⟩
  clear hi hz0 hz1 hz2
  have HS := Lib.hid (fun w' (hb : Below w.heap.size w w') => l4Sets_any v L w' (hr.kept hb) hl)
  have HV := Lib.hid (fun w' => valid_any e w')
  have HP := Lib.hid (fun (v : Value) (d : List Int) (x : Int) w' (ho : OwnI w' w.heap.size v d) (hB : w.heap.size ≤ w'.heap.size) (hd : d.length ≤ 1000000) => l4Put_any v d x w.heap.size w' ho hB hd)
  obtain ⟨a, cap, rfl, ha⟩ := hr
  have HA := Lib.hid ha
  clear ha
  have ho0 : OwnI (w.alloc (.cells #[] 3)) w.heap.size (.slice (some ⟨w.heap.size, 0, none⟩) 0 0) [] := OwnI.made (World.ownsRow_made w #[] 0 (Nat.le_refl _) (by unfold maxLen; omega) rfl)
  have hb0 : Below w.heap.size w (w.alloc (.cells #[] 3)) := (Below.refl _ _).alloc (Nat.le_refl _) _
  have HO0 := Lib.hid ho0
  have HB0 := Lib.hid hb0
  clear ho0 hb0
  cases hs : setsOk L with
  | false =>
    have HE : Hid (grwL L e = []) := Lib.hid (by unfold grwL; rw [hs]; simp)
    rw [hs] at HS
    clear hs
    go_enter Try.func25, Try.ntmps25
    go_wp2_with fail
    refine (HS.out _ HB0.out).mono ?_
    rintro e' w' ⟨rfl, rfl⟩
    go_wp2_with fail
    go_ret
    exact ⟨_, rfl, by rw [HE.out]; exact HO0.out, HB0.out⟩
  | true =>
    cases hv : valB e with
    | false =>
      have HE : Hid (grwL L e = []) := Lib.hid (by unfold grwL; rw [hv]; simp)
      rw [hs] at HS
      rw [hv] at HV
      clear hs hv
      go_enter Try.func25, Try.ntmps25
      go_wp2_with fail
      refine (HS.out _ HB0.out).mono ?_
      rintro e' w' ⟨rfl, rfl⟩
      go_wp2_with fail
      refine (HV.out _).mono ?_
      rintro e' w' ⟨rfl, rfl⟩
      go_wp2_with fail
      go_ret
      exact ⟨_, rfl, by rw [HE.out]; exact HO0.out, HB0.out⟩
    | true =>
      have HE : Hid (grwL L e = minS (ddTo (grwTo L e L.length) (grwTo L e L.length).length)) := Lib.hid (by unfold grwL; rw [hs, hv]; rfl)
      have hl100 : L.length ≤ 100 := by unfold setsOk at hs; rw [Bool.and_eq_true, decide_eq_true_iff] at hs; exact hs.2
      rw [hs] at HS
      rw [hv] at HV
      obtain ⟨X, rfl, hX⟩ := valN hv
      have HST : Hid (∀ i, grwTo L (X : Int) (i + 1) = if (bits .and .i64 (L.getD i 0) (X : Int) != 0) = true then grwTo L (X : Int) i ++ [L.getD i 0] else grwTo L (X : Int) i ++ grwOne (X : Int) (L.getD i 0) 5) := Lib.hid (fun i => rfl)
      have HSO : Hid (∀ (y : Int) (k : Nat), grwOne (X : Int) y (k + 1) = if bitB ((X : Int)).toNat k = true then grwOne (X : Int) y k ++ [bits .or .i64 y (2 ^ k)] else grwOne (X : Int) y k) := Lib.hid (fun y k => rfl)
      have HLT := Lib.hid (grwTo_len L (X : Int))
      have HLO := Lib.hid (grwOne_len (X : Int))
      clear hs hv hX
      go_enter Try.func25, Try.ntmps25
      go_wp2_with fail
      refine (HS.out _ HB0.out).mono ?_
      rintro e' w' ⟨rfl, rfl⟩
      go_wp2_with fail
      refine (HV.out _).mono ?_
      rintro e' w' ⟨rfl, rfl⟩
      go_wp2_with fail
      go_loopw [5, 6] (fun ov iv wr => ∃ (i : Nat) (q : List Int), i ≤ L.length ∧ iv = .int .i64 (i : Int) ∧ Hid (q = grwTo L (X : Int) i) ∧ Hid (OwnI wr w.heap.size ov q) ∧ Hid (Below w.heap.size w wr)) (fun _ iv _ => L.length - (intOf iv).toNat)
      case atStart => exact ⟨0, [], by omega, rfl, Lib.hid rfl, HO0, HB0⟩
      case round =>
        clear HO0 HB0
        obtain ⟨i, q, hi, rfl, hq, HO, HB⟩ := hrel
        obtain ⟨w3, hw3⟩ : ∃ w', w' = wr := ⟨_, rfl⟩
        rw [← hw3] at HO HB ⊢
        clear hw3
        have z0 : (0 : Int) ≤ (i : Int) := by omega
        have hql : q.length ≤ 500 := by rw [hq.out]; have := HLT.out i; omega
        by_cases hlt : i < L.length
        · obtain ⟨b, rfl, hb⟩ := HA.out i hlt
          have z1 : (i : Int) < (L.length : Int) := by omega
          have hS := HST.out i
          rw [← get_getD L i hlt, ← hq.out] at hS
          obtain ⟨y, hy⟩ : ∃ y, y = L[i] := ⟨_, rfl⟩
          rw [← hy] at hb hS
          clear hy hq
          have hb3 := (HB.out.cell (World.block_lt_of_cell? _ _ hb)).trans hb
          obtain ⟨pb, hpb⟩ : ∃ pb, (bits .and .i64 y (X : Int) != 0) = pb := ⟨_, rfl⟩
          rw [hpb] at hS
          cases pb with
          | true =>
            have HX : Hid (grwTo L (X : Int) (i + 1) = q ++ [y]) := Lib.hid (by rw [hS]; rfl)
            have ho := HO.out
            clear hS
            go_wp2_with (at_builtin; refine wpList_append_own _ rfl _ _ 22 rfl w.heap.size 3 i0 (.int .i64 0) 1 8 Try.underlying22 HI.out.1 HI.out.2.1 HI.out.2.2.1 HI.out.2.2.2 rfl (by decide) _ _ _ rfl (World.ownsRow.alloc ho _) ⟨w3.heap.size, 0, none⟩ 1 1 [.int .i64 y] rfl rfl (cell_one_new _ _ _) (one_i64 _) (by unfold maxLen; omega) (by omega) (by simp; have := HB.out.size; omega) ?_; intro v5 w5 hown5 hgrow5 _)
            have HO5 := Lib.hid (OwnI.snoc hown5)
            have HB5 := Lib.hid ((HB.out.alloc HB.out.size (.cells #[.int .i64 y] 3)).grown hgrow5 (by simp; have := HB.out.size; omega) (fun k hk => (HO.out.lt k hk).1))
            clear hown5 hgrow5 ho
            go_wp2_with fail
            go_roundw
            case rel => exact ⟨i + 1, _, by omega, by go_num, Lib.hid HX.out.symm, HO5, HB5⟩
            case measure => simp [intOf]; omega
          | false =>
            have HX : Hid (grwTo L (X : Int) (i + 1) = q ++ grwOne (X : Int) y 5) := Lib.hid (by rw [hS]; rfl)
            clear hS
            go_wp2_with fail
            clear hb3
            go_loopw [5, 7] (fun ov kv wr => ∃ (k : Nat) (p : List Int), k ≤ 5 ∧ kv = .int .i64 (k : Int) ∧ Hid (p = q ++ grwOne (X : Int) y k) ∧ Hid (OwnI wr w.heap.size ov p) ∧ Hid (Below w.heap.size w wr)) (fun _ kv _ => 5 - (intOf kv).toNat)
            case atStart => exact ⟨0, q, by omega, rfl, Lib.hid (List.append_nil q).symm, HO, HB⟩
            case round =>
              clear HO HB
              obtain ⟨k, p, hk, rfl, hp, HO, HB⟩ := hrel
              obtain ⟨w4, hw4⟩ : ∃ w', w' = wr := ⟨_, rfl⟩
              rw [← hw4] at HO HB ⊢
              clear hw4
              have hpl : p.length ≤ 505 := by rw [hp.out, List.length_append]; have := HLO.out y k; omega
              have y0 : (0 : Int) ≤ (k : Int) := by omega
              by_cases hkt : k < 5
              · have y1 : (k : Int) < 5 := by omega
                have hk20 : k ≤ 20 := by omega
                have hS := HSO.out y k
                rw [show ((X : Int)).toNat = X from rfl] at hS
                have hbit : (bits BinOp.and IntKind.i64 ((X : Int) / 2 ^ k) 1 == 1) = bitB X k := bit_test X k
                cases hB : bitB X k with
                | false =>
                  rw [hB] at hbit hS
                  have HY : Hid (q ++ grwOne (X : Int) y (k + 1) = p) := Lib.hid (by rw [hS, hp.out]; rfl)
                  clear hB hS
                  go_wp2_with fail
                  go_roundw
                  case rel => exact ⟨k + 1, _, by omega, by go_num, Lib.hid HY.out.symm, HO, HB⟩
                  case measure => simp [intOf]; omega
                | true =>
                  rw [hB] at hbit hS
                  have HY : Hid (q ++ grwOne (X : Int) y (k + 1) = p ++ [bits .or .i64 y (2 ^ k)]) := Lib.hid (by rw [hS, hp.out]; simp)
                  have hwk : IntKind.i64.wrap (2 ^ k) = 2 ^ k := by rw [IntWalk.i64_left]; exact wrap_pow k (by omega)
                  have hor := HO.out
                  clear hB hS
                  go_wp2_with fail
                  refine wp_region_noPanic ?_
                  refine wp_region_held_drew (S := (fun w' => w'.cell? (b.add i) = some (.int .i64 y) ∧ Below w.heap.size w w')) (by kernel_rfl) ?_ (fun hHeld => ?_)
                  · ((try dsimp only); exact ⟨((HB.out.drew).cell (World.block_lt_of_cell? _ _ hb)).trans hb, HB.out.drew⟩)
                  refine wpAnyH_take (i := 0) (v := ?_) rfl (by kernel_rfl) (by kernel_rfl) (by kernel_rfl) (fun _ _ _ h => h) (Or.inl ⟨by rfl, ?_⟩) (by assumption) ?_
                  rotate_left
                  · (intro w hSw; (try dsimp only at hSw); go_simp; (try with_reducible rfl))
                  (try simp only [Act.put, List.getElem_toArray, List.getElem_cons_zero, List.setIfInBounds_toArray, List.set_cons_zero, List.set_cons_succ])
                  refine wpAnyH_take (i := 1) (v := ?_) rfl (by kernel_rfl) (by kernel_rfl) (by kernel_rfl) (fun _ _ _ h => h) (Or.inl ⟨by rfl, ?_⟩) (by assumption) ?_
                  rotate_left
                  · (intro w hSw; (try dsimp only at hSw); go_simp; (try with_reducible rfl))
                  (try simp only [Act.put, List.getElem_toArray, List.getElem_cons_succ, List.getElem_cons_zero, List.setIfInBounds_toArray, List.set_cons_zero, List.set_cons_succ])
                  refine wpAnyH_take (i := 2) (v := ?_) rfl (by kernel_rfl) (by kernel_rfl) (by kernel_rfl) (fun _ _ _ h => h) (Or.inl ⟨by rfl, ?_⟩) (by assumption) ?_
                  rotate_left
                  · (intro w hSw; (try dsimp only at hSw); go_simp; (try with_reducible rfl))
                  (try simp only [Act.put, List.getElem_toArray, List.getElem_cons_succ, List.getElem_cons_zero, List.setIfInBounds_toArray, List.set_cons_zero, List.set_cons_succ])
                  refine wpAnyH_take (i := 3) (v := ?_) rfl (by kernel_rfl) (by kernel_rfl) (by kernel_rfl) (fun _ _ _ h => h) (Or.inl ⟨by rfl, ?_⟩) (by assumption) ?_
                  rotate_left
                  · (intro w hSw; (try dsimp only at hSw); go_simp; (try with_reducible rfl))
                  (try simp only [Act.put, List.getElem_toArray, List.getElem_cons_succ, List.getElem_cons_zero, List.setIfInBounds_toArray, List.set_cons_zero, List.set_cons_succ])
                  refine wpAnyH_take (i := 4) (v := ?_) rfl (by kernel_rfl) (by kernel_rfl) (by kernel_rfl) (fun _ _ _ h => h) (Or.inl ⟨by rfl, ?_⟩) (by assumption) ?_
                  rotate_left
                  · (intro w hSw; (try dsimp only at hSw); go_simp; (try with_reducible rfl))
                  (try simp only [Act.put, List.getElem_toArray, List.getElem_cons_succ, List.getElem_cons_zero, List.setIfInBounds_toArray, List.set_cons_zero, List.set_cons_succ])
                  refine wpAnyH_take (i := 5) (v := ?_) rfl (by kernel_rfl) (by kernel_rfl) (by kernel_rfl) (fun _ _ _ h => h) (Or.inl ⟨by rfl, ?_⟩) (by assumption) ?_
                  rotate_left
                  · (intro w hSw; (try dsimp only at hSw); go_simp; (try with_reducible rfl))
                  (try simp only [Act.put, List.getElem_toArray, List.getElem_cons_succ, List.getElem_cons_zero, List.setIfInBounds_toArray, List.set_cons_zero, List.set_cons_succ])
                  refine wpAnyH_take (i := 6) (v := ?_) rfl (by kernel_rfl) (by kernel_rfl) (by kernel_rfl) (fun _ _ _ h => h) (Or.inl ⟨by rfl, ?_⟩) (by assumption) ?_
                  rotate_left
                  · (intro w hSw; (try dsimp only at hSw); go_simp; (try with_reducible rfl))
                  (try simp only [Act.put, List.getElem_toArray, List.getElem_cons_succ, List.getElem_cons_zero, List.setIfInBounds_toArray, List.set_cons_zero, List.set_cons_succ])
                  refine wpAnyH_take (i := 7) (v := ?_) rfl (by kernel_rfl) (by kernel_rfl) (by kernel_rfl) (fun _ _ _ h => h) (Or.inl ⟨by rfl, ?_⟩) (by assumption) ?_
                  rotate_left
                  · (intro w hSw; (try dsimp only at hSw); go_simp; (try with_reducible rfl))
                  (try simp only [Act.put, List.getElem_toArray, List.getElem_cons_succ, List.getElem_cons_zero, List.setIfInBounds_toArray, List.set_cons_zero, List.set_cons_succ])
                  have BA := Lib.hid (HB.out.drew.alloc HB.out.drew.size (.cells #[.int .i64 (bits .or .i64 y (2 ^ k))] 3))
                  refine wpAnyH_ready (rs := [8]) (by kernel_rfl) (by simp) (AllReadyH.cons rfl (fun K hK => ?_) AllReadyH.nil)
                  go_simp
                  refine hK.out _ _ ?_ (fun hHeld => ?_)
                  · ((try dsimp only); exact ⟨((BA.out).cell (World.block_lt_of_cell? _ _ hb)).trans hb, BA.out⟩)
                  clear hK K
                  (try simp only [Act.put, List.getElem_toArray, List.getElem_cons_succ, List.getElem_cons_zero, List.setIfInBounds_toArray, List.set_cons_zero, List.set_cons_succ])
                  refine wpAnyH_ready (rs := [9]) (by kernel_rfl) (by simp) (AllReadyH.cons rfl (fun K hK => ?_) AllReadyH.nil)
                  (refine step_append_lies _ (by rfl) _ _ _ (by rfl) w.heap.size 3 i0 (.int .i64 0) 1 8 Try.underlying22 HI.out.1 HI.out.2.1 HI.out.2.2.1 HI.out.2.2.2 rfl (by decide) _ _ _ (by rfl) (World.ownsRow.alloc (w := w4.drew) hor _) ⟨w4.heap.size, 0, none⟩ 1 1 [.int .i64 (bits .or .i64 y (2 ^ k))] (by rfl) (by rfl) (cell_one_new _ _ _) (one_i64 _) (by omega) (by unfold maxLen; omega) (by omega) (by simp; have := HB.out.size; omega) (w4.heap.size + 1) (by simp) ?_; intro gg gcap w5 hown5 hgrow5 hat hltg; have HB5 := Lib.hid (BA.out.grown hgrow5 (by simp; have := HB.out.size; omega) (fun g hg => (hor.lt g hg).1)); have HO5 := Lib.hid (OwnI.snoc hown5); clear hown5 hgrow5 hat hltg)
                  (try (go_wp2_with fail))
                  refine hK.out _ _ ?_ (fun hHeld => ?_)
                  · ((try dsimp only); exact ⟨((HB5.out).cell (World.block_lt_of_cell? _ _ hb)).trans hb, HB5.out⟩)
                  clear hK K
                  (try simp only [Act.put, List.getElem_toArray, List.getElem_cons_succ, List.getElem_cons_zero, List.setIfInBounds_toArray, List.set_cons_zero, List.set_cons_succ])
                  refine wpAnyH_take (i := 10) (v := ?_) rfl (by kernel_rfl) (by kernel_rfl) (by kernel_rfl) (fun _ _ _ h => h) (Or.inl ⟨by rfl, ?_⟩) (by assumption) ?_
                  rotate_left
                  · (intro w hSw; (try dsimp only at hSw); go_simp; (try with_reducible rfl))
                  (try simp only [Act.put, List.getElem_toArray, List.getElem_cons_succ, List.getElem_cons_zero, List.setIfInBounds_toArray, List.set_cons_zero, List.set_cons_succ])
                  refine wpAnyH_done (by kernel_rfl) ?_ _
                  refine NoPanic.normal ?_
                  clear hHeld hor
                  go_wp2_with fail
                  go_roundw
                  case rel => exact ⟨k + 1, _, by omega, by go_num, Lib.hid HY.out.symm, HO5, HB5⟩
                  case measure => simp [intOf]; omega
              · obtain rfl : k = 5 := by omega
                go_wp2_with fail
                go_roundw
                case rel => exact ⟨i + 1, _, by omega, by go_num, Lib.hid (by rw [HX.out]; exact hp.out), HO, HB⟩
                case measure => simp [intOf]; omega
        · obtain rfl : i = L.length := by omega
          obtain ⟨ao, co, rfl, hao⟩ := HO.out.read
          have HAO := Lib.hid hao
          have HE2 : Hid (grwL L (X : Int) = minS (ddTo q q.length)) := Lib.hid (by rw [HE.out, ← hq.out])
          have HO1 : Hid (OwnI (w3.alloc (.cells #[] 3)) w.heap.size (.slice (some ⟨w3.heap.size, 0, none⟩) 0 0) []) := Lib.hid (OwnI.made (World.ownsRow_made w3 #[] 0 HB.out.size (by unfold maxLen; omega) rfl))
          have HB1 := Lib.hid (HB.out.alloc HB.out.size (.cells #[] 3))
          have HK1 := Lib.hid ((Below.refl w3.heap.size w3).alloc (Nat.le_refl _) (.cells #[] 3))
          have HW3 := Lib.hid HB.out.size
          clear hao HO HB HE hq
          go_wp2_with fail
          go_loopw [8, 9] (fun lv jv wr => ∃ (j : Nat) (d : List Int), j ≤ q.length ∧ jv = .int .i64 (j : Int) ∧ Hid (d = ddTo q j) ∧ Hid (OwnI wr w.heap.size lv d) ∧ Hid (Below w.heap.size w wr) ∧ Hid (Below w3.heap.size w3 wr)) (fun _ jv _ => q.length - (intOf jv).toNat)
          case atStart => exact ⟨0, [], by omega, rfl, Lib.hid rfl, HO1, HB1, HK1⟩
          case round =>
            clear HO1 HB1 HK1
            obtain ⟨j, d, hj, rfl, hd, HO, HB, HK⟩ := hrel
            obtain ⟨w4, hw4⟩ : ∃ w', w' = wr := ⟨_, rfl⟩
            rw [← hw4] at HO HB HK ⊢
            clear hw4
            have y0 : (0 : Int) ≤ (j : Int) := by omega
            have hdl : d.length ≤ 505 := by rw [hd.out]; have := ddTo_len q j; omega
            by_cases hjt : j < q.length
            · obtain ⟨b, rfl, hb⟩ := HAO.out j hjt
              have hb4 := (HK.out.cell (World.block_lt_of_cell? _ _ hb)).trans hb
              have y1 : (j : Int) < (q.length : Int) := by omega
              have HD : Hid (ddTo q (j + 1) = put4 d (q.getD j 0)) := Lib.hid (by rw [hd.out]; rfl)
              have HG := HD
              rw [← get_getD q j hjt] at HG
              obtain ⟨y, hy⟩ : ∃ y, y = q[j] := ⟨_, rfl⟩
              rw [← hy] at hb4 HG
              clear hy hb HD
              go_wp2_with fail
              refine (HP.out _ d y _ HO.out HB.out.size (by omega)).mono ?_
              rintro e' w5 ⟨v5, rfl, o5, b5⟩
              have HB5 := Lib.hid (HB.out.trans (b5.mono HB.out.size))
              have HK5 := Lib.hid (HK.out.trans (b5.mono HK.out.size))
              have HO5 := Lib.hid o5
              clear o5 b5 hb4
              go_wp2_with fail
              go_roundw
              case rel => exact ⟨j + 1, _, by omega, by go_num, Lib.hid HG.out.symm, HO5, HB5, HK5⟩
              case measure => simp [intOf]; omega
            · obtain rfl : j = q.length := by omega
              have HM := Lib.hid (fun v w' (h : ReadI w' v d) => minimalSets_any v d w' h (by omega))
              have HE3 : Hid (grwL L (X : Int) = minS d) := Lib.hid (by rw [HE2.out, hd.out])
              go_wp2_with fail
              refine (HM.out _ _ HO.out.read).mono ?_
              rintro e' w5 ⟨v5, rfl, o5, b5⟩
              have hb5 := HB.out.trans (b5.mono HB.out.size)
              have o6 := o5.base HB.out.size
              clear o5 b5
              go_wp2_with fail
              go_ret
              exact ⟨_, rfl, by rw [HE3.out]; exact o6, hb5⟩
end
end Go.Proofs.Ytbbbdabmbiggkaa
namespace Go.Proofs.Ytbbbdabmbiggkaa
open Go.RowKit

theorem minS_le (l : List Int) : (minS l).length ≤ l.length := by
  unfold minS
  split
  · exact mnTo_len l _
  · exact Nat.zero_le _
theorem grwL_len (l : List Int) (e : Int) : (grwL l e).length ≤ 500 := by
  unfold grwL
  split
  · rename_i h
    rw [Bool.and_eq_true] at h
    have h1 := h.1
    unfold setsOk at h1
    rw [Bool.and_eq_true, decide_eq_true_iff] at h1
    have h2 := minS_le (ddTo (grwTo l e l.length) (grwTo l e l.length).length)
    have h3 := ddTo_len (grwTo l e l.length) (grwTo l e l.length).length
    have h4 := grwTo_len l e l.length
    omega
  · exact Nat.zero_le _
theorem trTo_len (E : List Int) : ∀ i, (trTo E i).length ≤ 500
  | 0 => by show ([0] : List Int).length ≤ 500; decide
  | i + 1 => grwL_len _ _
theorem nil_own (w wr : World) (hb : Below w.heap.size w wr) : OwnI (wr.alloc (.cells #[] 3)) w.heap.size (.slice (some ⟨wr.heap.size, 0, none⟩) 0 0) [] ∧ Below w.heap.size w (wr.alloc (.cells #[] 3)) :=
  ⟨OwnI.made (World.ownsRow_made wr #[] 0 hb.size (by unfold maxLen; omega) rfl), hb.alloc hb.size _⟩
section
set_option maxRecDepth 20000
set_option maxHeartbeats 3200000
theorem trans9_any (v : Value) (E : List Int) (n : Int) (w : World) (hr : ReadI w v E) (hl : E.length ≤ 1048576) :
    Calls Try.prog 6 #[v, .int .i64 n] w (RetI (trL E n) w) := by
  have HIN := Lib.hid (fun w' => in_any n 0 5 w')
  have HIA := Lib.hid (fun x w' => isA_any n x w')
  have HG := Lib.hid (fun (v : Value) (l : List Int) (e : Int) w' (h : ReadI w' v l) (hl : l.length ≤ 1048576) => grow9_any v l e w' h hl)
  obtain ⟨a, cap, rfl, ha⟩ := hr
  have HA := Lib.hid ha
  clear ha
  have ho0 : OwnI (w.alloc (.cells #[.int .i64 0] 3)) w.heap.size (.slice (some ⟨w.heap.size, 0, none⟩) 1 1) [0] := World.ownsRow_lit w #[.int .i64 0] 1 (Nat.le_refl _) (by unfold maxLen; omega) rfl
  have hb0 : Below w.heap.size w (w.alloc (.cells #[.int .i64 0] 3)) := (Below.refl _ _).alloc (Nat.le_refl _) _
  have HN0 : Hid (OwnI ((w.alloc (.cells #[.int .i64 0] 3)).alloc (.cells #[] 3)) w.heap.size (.slice (some ⟨w.heap.size + 1, 0, none⟩) 0 0) [] ∧ Below w.heap.size w ((w.alloc (.cells #[.int .i64 0] 3)).alloc (.cells #[] 3))) := Lib.hid (by have h := nil_own w _ hb0; rw [World.size_alloc] at h; exact h)
  have HO0 := Lib.hid ho0
  have HB0 := Lib.hid hb0
  clear ho0 hb0
  by_cases hn : 0 ≤ n ∧ n ≤ 5
  · rw [decide_eq_true hn] at HIN
    by_cases h100 : E.length ≤ 100
    · have hgt : ¬ ((100 : Int) < (E.length : Int)) := by omega
      have HE : Hid (E.all (isA n) = true → trL E n = trTo E E.length) := Lib.hid (fun h => by unfold trL; rw [h, decide_eq_true (show (0 ≤ n ∧ n ≤ 5) ∧ E.length ≤ 100 from ⟨hn, h100⟩)]; rfl)
      have HF : Hid (E.all (isA n) = false → trL E n = []) := Lib.hid (fun h => by unfold trL; rw [h, Bool.and_false]; rfl)
      clear hn
      go_enter Try.func6, Try.ntmps6
      go_wp2_with fail
      refine (HIN.out _).mono ?_
      rintro e' w' ⟨rfl, rfl⟩
      go_wp2_with fail
      go_loopw [5, 6] (fun ov iv wr => ∃ (i : Nat) (q : List Int), i ≤ E.length ∧ iv = .int .i64 (i : Int) ∧ Hid (q = trTo E i ∧ (E.take i).all (isA n) = true) ∧ Hid (OwnI wr w.heap.size ov q) ∧ Hid (Below w.heap.size w wr)) (fun _ iv _ => E.length - (intOf iv).toNat)
      case atStart => exact ⟨0, [0], by omega, rfl, Lib.hid ⟨rfl, rfl⟩, HO0, HB0⟩
      case round =>
        clear HO0 HB0 HN0
        obtain ⟨i, q, hi, rfl, hq, HO, HB⟩ := hrel
        obtain ⟨w3, hw3⟩ : ∃ w', w' = wr := ⟨_, rfl⟩
        rw [← hw3] at HO HB ⊢
        clear hw3
        have z0 : (0 : Int) ≤ (i : Int) := by omega
        have hql : q.length ≤ 1048576 := by rw [hq.out.1]; have := trTo_len E i; omega
        by_cases hlt : i < E.length
        · obtain ⟨b, rfl, hb⟩ := HA.out i hlt
          have z1 : (i : Int) < (E.length : Int) := by omega
          have HOK := Lib.hid (fun h => all_snoc (p := isA n) hlt hq.out.2 h)
          have HNO := Lib.hid (fun h => all_not (p := isA n) hlt h)
          have HS : Hid (trTo E (i + 1) = grwL q E[i]) := Lib.hid (by rw [hq.out.1, get_getD E i hlt]; rfl)
          obtain ⟨y, hy⟩ : ∃ y, y = E[i] := ⟨_, rfl⟩
          rw [← hy] at hb HOK HNO HS
          have HQ := Lib.hid (HIA.out y)
          have hb3 := (HB.out.cell (World.block_lt_of_cell? _ _ hb)).trans hb
          clear hy hq hb
          cases hv : isA n y with
          | true =>
            rw [hv] at HQ
            have HX := Lib.hid (HOK.out hv)
            clear hv
            go_wp2_with fail
            refine (HQ.out _).mono ?_
            rintro e' w' ⟨rfl, rfl⟩
            go_wp2_with fail
            refine (HG.out _ q y _ HO.out.read hql).mono ?_
            rintro e' w5 ⟨v5, rfl, o5, b5⟩
            have HB5 := Lib.hid (HB.out.trans (b5.mono HB.out.size))
            have HO5 := Lib.hid (o5.base HB.out.size)
            clear o5 b5 hb3
            go_wp2_with fail
            go_roundw
            case rel => exact ⟨i + 1, _, by omega, by go_num, Lib.hid ⟨HS.out.symm, HX.out⟩, HO5, HB5⟩
            case measure => simp [intOf]; omega
          | false =>
            rw [hv] at HQ
            have HX := Lib.hid (HF.out (HNO.out hv))
            have HN := Lib.hid (nil_own w _ HB.out)
            clear hv
            go_wp2_with fail
            refine (HQ.out _).mono ?_
            rintro e' w' ⟨rfl, rfl⟩
            go_wp2_with fail
            go_ret
            exact ⟨_, rfl, by rw [HX.out]; exact HN.out.1, HN.out.2⟩
        · obtain rfl : i = E.length := by omega
          have HX : Hid (trL E n = q) := Lib.hid (by rw [HE.out (by have := hq.out.2; rwa [List.take_length] at this), hq.out.1])
          clear hq
          go_wp2_with fail
          go_ret
          exact ⟨_, rfl, by rw [HX.out]; exact HO.out, HB.out⟩
    · have hgt : (100 : Int) < (E.length : Int) := by omega
      have HF : Hid (trL E n = []) := Lib.hid (by unfold trL; rw [decide_eq_false (fun h => h100 h.2), Bool.false_and]; rfl)
      clear hn
      go_enter Try.func6, Try.ntmps6
      go_wp2_with fail
      refine (HIN.out _).mono ?_
      rintro e' w' ⟨rfl, rfl⟩
      go_wp2_with fail
      go_ret
      exact ⟨_, rfl, by rw [HF.out]; exact HN0.out.1, HN0.out.2⟩
  · have HF : Hid (trL E n = []) := Lib.hid (by unfold trL; rw [decide_eq_false (fun h => hn h.1), Bool.false_and]; rfl)
    rw [decide_eq_false hn] at HIN
    clear hn
    go_enter Try.func6, Try.ntmps6
    go_wp2_with fail
    refine (HIN.out _).mono ?_
    rintro e' w' ⟨rfl, rfl⟩
    go_wp2_with fail
    go_ret
    exact ⟨_, rfl, by rw [HF.out]; exact HN0.out.1, HN0.out.2⟩
end
end Go.Proofs.Ytbbbdabmbiggkaa
namespace Go.Proofs.Ytbbbdabmbiggkaa
open Go.RowKit

set_option maxHeartbeats 800000 in
theorem members_any (X : Nat) (hX : X < 32) (w : World) :
    Calls Try.prog 73 #[.int .i64 (X : Int)] w (RetI (mems (X : Int)) w) := by
  obtain ⟨i0, hi, hz0, hz1, hz2⟩ := info_parts info3i
  have HI : Hid (_ ∧ _ ∧ _ ∧ _) := Lib.hid ⟨hi, hz0, hz1, hz2⟩
  clear hi hz0 hz1 hz2
  have he : mems (X : Int) = memN X 5 := by unfold mems; rw [if_pos (by omega)]; rfl
  have HE := Lib.hid he
  clear he
  have HH := Lib.hid (fun (k : Nat) (hk : k ≤ 62) (w : World) => has_any X k hk w)
  go_enter Try.func73, Try.ntmps73
  go_wp2_with (at_make; refine wpList_make_own _ rfl _ _ 22 rfl w.heap.size 3 i0 (.int .i64 0) 1 Try.underlying22 HI.out.1 HI.out.2.1 HI.out.2.2.1 .i64 .i64 _ 5 rfl rfl (by omega) (by rw [HI.out.2.2.2]; omega) (by unfold maxLen; omega) (Nat.le_refl _) ?_; intro w0 hown0 hgrow0)
  have hb0 := (Below.refl w.heap.size w).grown hgrow0 (Nat.le_refl _) (by simp)
  have hown := OwnI.made hown0
  clear hown0 hgrow0
  go_loopw [3, 4] (fun ov iv wr => ∃ (k : Nat) (l : List Int), k ≤ 5 ∧ iv = .int .i64 (k : Int) ∧ Hid (l = memN X k) ∧ OwnI wr w.heap.size ov l ∧ Below w.heap.size w wr) (fun _ iv _ => (5 - intOf iv).toNat)
  case atStart => exact ⟨0, [], by omega, rfl, Lib.hid rfl, hown, hb0⟩
  case round =>
    obtain ⟨k, l, hk, rfl, hl, ho, hb⟩ := hrel
    by_cases hlt : k < 5
    · have hll : l.length ≤ 5 := by rw [hl.out]; have := memN_len X k; omega
      by_cases hB : bitB X k = true
      · go_wp2_with fail
        refine (HH.out k (by omega) _).mono ?_
        rintro e w' ⟨rfl, rfl⟩
        go_wp2_with (at_builtin; refine wpList_append_own _ rfl _ _ 22 rfl w.heap.size 3 i0 (.int .i64 0) 1 8 Try.underlying22 HI.out.1 HI.out.2.1 HI.out.2.2.1 HI.out.2.2.2 rfl (by decide) _ _ _ rfl (World.ownsRow.alloc ho _) ⟨wr.heap.size, 0, none⟩ 1 1 [.int .i64 (k : Int)] rfl rfl (cell_one_new _ _ _) (one_i64 _) (by unfold maxLen; omega) (by omega) (le_alloc hb (Nat.le_refl _) _) ?_; intro v' w1 hown' hgrow _)
        have ho' := OwnI.snoc hown'
        have hb' := (hb.alloc hb.size (.cells #[.int .i64 (k : Int)] 3)).grown hgrow (by simp; have := hb.size; omega) (fun k hk => (OwnI.lt ho k hk).1)
        clear hown' hgrow
        go_wp2_with fail
        go_roundw
        case rel => exact ⟨k + 1, _, by omega, by go_num, Lib.hid (by rw [memN_succ, if_pos hB, ← hl.out]), ho', hb'⟩
        case measure => simp [intOf]; omega
      · have hB2 : bitB X k = false := by simpa using hB
        go_wp2_with fail
        refine (HH.out k (by omega) _).mono ?_
        rintro e w' ⟨rfl, rfl⟩
        go_wp2_with fail
        go_roundw
        case rel => exact ⟨k + 1, _, by omega, by go_num, Lib.hid (by rw [memN_succ, if_neg hB, ← hl.out]), ho, hb⟩
        case measure => simp [intOf]; omega
    · obtain rfl : k = 5 := by omega
      go_wp2_with fail
      go_ret
      exact ⟨_, rfl, by rw [HE.out, ← hl.out]; exact ho, hb⟩
theorem OwnI.none (w : World) (B : Nat) : OwnI w B (.slice .none 0 0) [] := World.ownsRow_nil _ _ _ _
end Go.Proofs.Ytbbbdabmbiggkaa
