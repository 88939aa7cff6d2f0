/- Texts of this claim, merged: AxA, AxC, ExB, FnClB. Conditions: as stated. -/
import Derived.Test.YtbldcdlpcidffaaAxRm
import Derived.Test.YtbldcdlpcidffaaPcCm
import Derived.Test.YtbldcdlpcidffaaXc31
import Derived.Test.YtbldcdlpcidffaaXc24
import Derived.Test.YtbldcdlpcidffaaXc32
import Derived.Test.YtbldcdlpcidffaaExAm
import Derived.Test.YtbldcdlpcidffaaXc3
import Derived.Test.YtbldcdlpcidffaaXc23
import Derived.Test.YtbldcdlpcidffaaXc28
import Derived.Test.YtbldcdlpcidffaaPcEm
import Derived.Test.YtbldcdlpcidffaaClEm
import Derived.Test.YtbldcdlpcidffaaClFm
import Derived.Test.YtbldcdlpcidffaaXc19
import Derived.Test.YtbldcdlpcidffaaXc36
import Derived.Deep.Quiet
import Derived.BigQuiet
namespace Go.Proofs.Ytbldcdlpcidffaa
open Go.RowKit

/-- A row read up to some place. -/
theorem ReadI.pre {w : World} {a : Option Addr} {n cap : Nat} {A B : List Int} (h : ReadI w (.slice a n cap) (A ++ B)) : ReadI w (.slice a A.length cap) A := by
  obtain ⟨a', cap', e, hc⟩ := h
  cases e
  refine ⟨a, cap, rfl, fun i hi => ?_⟩
  obtain ⟨x, hx, h⟩ := hc i (by rw [List.length_append]; omega)
  exact ⟨x, hx, by rw [List.getElem_append_left hi] at h; exact h⟩
theorem ownI_cap {w : World} {B n c : Nat} {a : Option Addr} {l : List Int} (h : OwnI w B (.slice a n c) l) : l.length ≤ c := by
  rcases h.2 with ⟨e, h0⟩ | ⟨g, cap, cur, e, -, -, hn, -⟩
  · rw [h0]; exact Nat.zero_le _
  · cases e; exact hn
section
set_option maxRecDepth 20000
set_option maxHeartbeats 3200000
end
end Go.Proofs.Ytbldcdlpcidffaa
namespace Go.Proofs.Ytbldcdlpcidffaa
open Go.RowKit

theorem readI_one (w : World) (x : Int) (T : TypeId) : ReadI (w.alloc (.cells #[.int .i64 x] T)) (.slice (some ⟨w.heap.size, 0, none⟩) 1 1) [x] :=
  ⟨_, _, rfl, fun i hi => by
    obtain rfl : i = 0 := by simp at hi; omega
    exact ⟨_, rfl, one_at w T (.int .i64 x)⟩⟩
theorem tab_end2 {w x : World} {N t : Nat} {v : Value} {L : List (List Int)} (ho : OwnSS x N x.heap.size v L) (hb : Below w.heap.size w x) (hN : t < N) (ht : w.heap.size ≤ t) (c : Int) :
    OwnSS ((x.setCell ⟨t, 0, none⟩ (.int .i64 c)).setCell ⟨t, 1, none⟩ v) w.heap.size ((x.setCell ⟨t, 0, none⟩ (.int .i64 c)).setCell ⟨t, 1, none⟩ v).heap.size v L ∧ Below w.heap.size w ((x.setCell ⟨t, 0, none⟩ (.int .i64 c)).setCell ⟨t, 1, none⟩ v) := by
  have h3 := ho.same ((Same.refl N x.heap.size x).setCell (p := ⟨t, 0, none⟩) (.inl hN) (.int .i64 c))
  have h4 := h3.same ((Same.refl N x.heap.size _).setCell (p := ⟨t, 1, none⟩) (.inl hN) v)
  exact ⟨h4.base (by omega) (by simp), (hb.setCell (p := ⟨t, 0, none⟩) ht (.int .i64 c)).setCell (p := ⟨t, 1, none⟩) ht v⟩
section
set_option maxRecDepth 20000
set_option maxHeartbeats 3200000
theorem implCtr_any (v : Value) (n x y : Int) (l : List (Int × Int)) (_w0 : (Lit.int .i64 n).wf = true) (bd : ∀ d ∈ l, (Lit.int .i64 d.1).wf = true ∧ (Lit.int .i64 d.2).wf = true) (_wx : (Lit.int .i64 x).wf = true) (_wy : (Lit.int .i64 y).wf = true) (w : World) (hr : ReadD w v l) (hl : l.length ≤ 1048576) :
    Calls Try.prog 8 #[.int .i64 n, v, .agg #[.int .i64 x, .int .i64 y]] w (RetTB (ctrC n l (x, y)) (ctrL n l (x, y)) (ctrB n l (x, y)) w) := by
  have hb1 := (Below.refl w.heap.size w).alloc (Nat.le_refl _) (.cells #[.int .i64 x, .int .i64 y] 26)
  have hb2 := hb1.alloc hb1.size (.cells #[.int .i64 0, .slice none 0 0] 35)
  have hba := (Below.refl (w.alloc (.cells #[.int .i64 x, .int .i64 y] 26)).heap.size _).alloc (Nat.le_refl _) (.cells #[.int .i64 0, .slice none 0 0] 35)
  have HD2 := Lib.hid ((bx_new w x y).keep hba)
  have hz := bxt_new (w.alloc (.cells #[.int .i64 x, .int .i64 y] 26)) 0 (.slice none 0 0)
  rw [World.size_alloc] at hz
  have HZ2 := Lib.hid hz
  have HB2 := Lib.hid hb2
  have HAD := Lib.hid (fun w' (hb : Below w.heap.size w w') => implAreDeps_any v n l _w0 bd w' (hr.kept hb) hl)
  have HID := Lib.hid (fun w' => implIsDep_all n x y _wx w')
  have HIM := Lib.hid (fun w' (hb : Below w.heap.size w w') => implImpliesDep_any v n x y l _w0 bd _wx _wy w' (hr.kept hb) hl)
  have HCL := Lib.hid (fun w' (hb : Below w.heap.size w w') => implClosureOf_any v n x l _w0 bd _wx w' (hr.kept hb) hl)
  clear hb1 hb2 hba hz bd
  have c0 := HD2.out.c0
  have c1 := HD2.out.c1
  cases ha : arD n l with
  | false =>
    rw [ha] at HAD
    have HE := Lib.hid (ctr_none (n := n) (l := l) (d := (x, y)) (by rw [ha]; simp))
    obtain ⟨a, cap, rfl, -⟩ := hr
    clear ha
    go_enter Try.func8, Try.ntmps8
    go_wp2_with fail
    refine (HAD.out _ HB2.out).mono ?_
    rintro e w3 ⟨rfl, b3⟩
    have HB3 := Lib.hid (HB2.out.trans (b3.mono HB2.out.size))
    have HD3 := Lib.hid (HD2.out.keep b3)
    have HZ3 := Lib.hid (HZ2.out.keep b3)
    clear b3 c0 c1
    have c0 := HD3.out.c0
    have c1 := HD3.out.c1
    have hz9 := HZ3.out
    have d0 := hz9.c0
    have d1 := hz9.c1
    have e0 := hz9.f0
    have e1 := hz9.f1
    have hf := hz9.put (c' := 0) (v := .slice none 0 0)
    have HR := Lib.hid (And.intro hf.c0 hf.c1)
    have HBE := Lib.hid ((HB3.out.setCell (p := ⟨w.heap.size + 1, 0, none⟩) (by simp) (.int .i64 0)).setCell (p := ⟨w.heap.size + 1, 1, none⟩) (by simp) (.slice none 0 0))
    clear hz9 hf
    go_wp2_with fail
    exact bodyPost_ret (v := .tuple #[.agg #[.int .i64 0, .slice none 0 0], .bool false]) (by simp [results, Try.results8, go_sem, HR.out.1, HR.out.2]) rfl ⟨_, by rw [HE.out.1, HE.out.2.2], by rw [HE.out.2.1]; exact OwnSS.nil _ _ _, HBE.out⟩
  | true =>
    rw [ha] at HAD
    cases hd : depB n x y with
    | false =>
      rw [hd] at HID
      have HE := Lib.hid (ctr_none (n := n) (l := l) (d := (x, y)) (by rw [hd]; simp))
      obtain ⟨a, cap, rfl, -⟩ := hr
      clear ha hd
      go_enter Try.func8, Try.ntmps8
      go_wp2_with fail
      refine (HAD.out _ HB2.out).mono ?_
      rintro e w3 ⟨rfl, b3⟩
      have HB3 := Lib.hid (HB2.out.trans (b3.mono HB2.out.size))
      have HD3 := Lib.hid (HD2.out.keep b3)
      have HZ3 := Lib.hid (HZ2.out.keep b3)
      clear b3 c0 c1
      have c0 := HD3.out.c0
      have c1 := HD3.out.c1
      go_wp2_with fail
      refine (HID.out _).mono ?_
      rintro e w4 ⟨rfl, b4⟩
      have HB4 := Lib.hid (HB3.out.trans (b4.mono HB3.out.size))
      have HD4 := Lib.hid (HD3.out.keep b4)
      have HZ4 := Lib.hid (HZ3.out.keep b4)
      clear b4 c0 c1
      have c0 := HD4.out.c0
      have c1 := HD4.out.c1
      have hz9 := HZ4.out
      have d0 := hz9.c0
      have d1 := hz9.c1
      have e0 := hz9.f0
      have e1 := hz9.f1
      have hf := hz9.put (c' := 0) (v := .slice none 0 0)
      have HR := Lib.hid (And.intro hf.c0 hf.c1)
      have HBE := Lib.hid ((HB4.out.setCell (p := ⟨w.heap.size + 1, 0, none⟩) (by simp) (.int .i64 0)).setCell (p := ⟨w.heap.size + 1, 1, none⟩) (by simp) (.slice none 0 0))
      clear hz9 hf
      go_wp2_with fail
      exact bodyPost_ret (v := .tuple #[.agg #[.int .i64 0, .slice none 0 0], .bool false]) (by simp [results, Try.results8, go_sem, HR.out.1, HR.out.2]) rfl ⟨_, by rw [HE.out.1, HE.out.2.2], by rw [HE.out.2.1]; exact OwnSS.nil _ _ _, HBE.out⟩
    | true =>
      rw [hd] at HID
      cases hi : impB n l (x, y) with
      | true =>
        rw [hi] at HIM
        have HE := Lib.hid (ctr_none (n := n) (l := l) (d := (x, y)) (by rw [hi]; simp))
        obtain ⟨a, cap, rfl, -⟩ := hr
        clear ha hd hi
        go_enter Try.func8, Try.ntmps8
        go_wp2_with fail
        refine (HAD.out _ HB2.out).mono ?_
        rintro e w3 ⟨rfl, b3⟩
        have HB3 := Lib.hid (HB2.out.trans (b3.mono HB2.out.size))
        have HD3 := Lib.hid (HD2.out.keep b3)
        have HZ3 := Lib.hid (HZ2.out.keep b3)
        clear b3 c0 c1
        have c0 := HD3.out.c0
        have c1 := HD3.out.c1
        go_wp2_with fail
        refine (HID.out _).mono ?_
        rintro e w4 ⟨rfl, b4⟩
        have HB4 := Lib.hid (HB3.out.trans (b4.mono HB3.out.size))
        have HD4 := Lib.hid (HD3.out.keep b4)
        have HZ4 := Lib.hid (HZ3.out.keep b4)
        clear b4 c0 c1
        have c0 := HD4.out.c0
        have c1 := HD4.out.c1
        go_wp2_with fail
        refine (HIM.out _ HB4.out).mono ?_
        rintro e w5 ⟨rfl, b5⟩
        have HB5 := Lib.hid (HB4.out.trans (b5.mono HB4.out.size))
        have HD5 := Lib.hid (HD4.out.keep b5)
        have HZ5 := Lib.hid (HZ4.out.keep b5)
        clear b5 c0 c1
        have c0 := HD5.out.c0
        have c1 := HD5.out.c1
        have hz9 := HZ5.out
        have d0 := hz9.c0
        have d1 := hz9.c1
        have e0 := hz9.f0
        have e1 := hz9.f1
        have hf := hz9.put (c' := 0) (v := .slice none 0 0)
        have HR := Lib.hid (And.intro hf.c0 hf.c1)
        have HBE := Lib.hid ((HB5.out.setCell (p := ⟨w.heap.size + 1, 0, none⟩) (by simp) (.int .i64 0)).setCell (p := ⟨w.heap.size + 1, 1, none⟩) (by simp) (.slice none 0 0))
        clear hz9 hf
        go_wp2_with fail
        exact bodyPost_ret (v := .tuple #[.agg #[.int .i64 0, .slice none 0 0], .bool false]) (by simp [results, Try.results8, go_sem, HR.out.1, HR.out.2]) rfl ⟨_, by rw [HE.out.1, HE.out.2.2], by rw [HE.out.2.1]; exact OwnSS.nil _ _ _, HBE.out⟩
      | false =>
        rw [hi] at HIM
        have hB : ctrB n l (x, y) = true := decide_eq_true ⟨ha, hd, hi⟩
        obtain ⟨C, rfl, hC1, hC5, -, hdl⟩ := arD_n ha
        have h32 := two5 hC5
        obtain ⟨-, hA, -, -⟩ := depB_iff.1 hd
        obtain ⟨X, hX, hX32, hXC⟩ := isA_lt12 hC5 hA
        have hcz : cloZ (C : Int) l x = (clo l X : Int) := by
          unfold cloZ; rw [ha, hA, hX]; rfl
        obtain ⟨c1', c2', c3', c4', c5'⟩ := clo_spec hC5 hdl (x := X) hX32
        have hK := c3' hXC
        have HE : Hid (ctrC (C : Int) l (x, y) = (C : Int) ∧ ctrL (C : Int) l (x, y) = List.replicate C 0 :: rowsA C (zpN (fun j => (([(clo l X : Int)] : List Int).getD j 0).toNat) 1) ∧ ctrB (C : Int) l (x, y) = true) := Lib.hid ⟨by unfold ctrC; rw [hB]; rfl, by rw [ctr_rows hB, hX]; rfl, hB⟩
        rw [hcz] at HCL
        obtain ⟨Z, hZ⟩ : ∃ Z, Z = clo l X := ⟨_, rfl⟩
        rw [← hZ] at HCL HE hK
        have HTA := Lib.hid (fun u w' (hu : ReadI w' u [(Z : Int)]) => tableA_any C hC5 u [(Z : Int)] (fun x hx => by
          rw [List.mem_singleton] at hx
          exact ⟨Z, hx, by omega⟩) w' hu (show 1 ≤ 32 by decide))
        obtain ⟨LL, hLL⟩ : ∃ LL, LL = List.replicate C 0 :: rowsA C (zpN (fun j => (([(Z : Int)] : List Int).getD j 0).toNat) 1) := ⟨_, rfl⟩
        have HTB : Hid (∀ u w', ReadI w' u [(Z : Int)] → Calls Try.prog 32 #[u, .int .i64 (C : Int)] w' (RetT12 (C : Int) LL w')) := Lib.hid (fun u w' hu => by rw [hLL]; exact HTA.out u w' hu)
        rw [← hLL] at HE
        obtain ⟨a, cap, rfl, -⟩ := hr
        clear ha hd hi hB hdl h32 hA hX hX32 hXC hcz c1' c2' c3' c4' c5' hK hZ hLL HTA
        go_enter Try.func8, Try.ntmps8
        go_wp2_with fail
        refine (HAD.out _ HB2.out).mono ?_
        rintro e w3 ⟨rfl, b3⟩
        have HB3 := Lib.hid (HB2.out.trans (b3.mono HB2.out.size))
        have HD3 := Lib.hid (HD2.out.keep b3)
        have HZ3 := Lib.hid (HZ2.out.keep b3)
        clear b3 c0 c1
        have c0 := HD3.out.c0
        have c1 := HD3.out.c1
        go_wp2_with fail
        refine (HID.out _).mono ?_
        rintro e w4 ⟨rfl, b4⟩
        have HB4 := Lib.hid (HB3.out.trans (b4.mono HB3.out.size))
        have HD4 := Lib.hid (HD3.out.keep b4)
        have HZ4 := Lib.hid (HZ3.out.keep b4)
        clear b4 c0 c1
        have c0 := HD4.out.c0
        have c1 := HD4.out.c1
        go_wp2_with fail
        refine (HIM.out _ HB4.out).mono ?_
        rintro e w5 ⟨rfl, b5⟩
        have HB5 := Lib.hid (HB4.out.trans (b5.mono HB4.out.size))
        have HD5 := Lib.hid (HD4.out.keep b5)
        have HZ5 := Lib.hid (HZ4.out.keep b5)
        clear b5 c0 c1
        have c0 := HD5.out.c0
        have c1 := HD5.out.c1
        go_wp2_with fail
        refine (HCL.out _ HB5.out).mono ?_
        rintro e w6 ⟨rfl, b6⟩
        have HB6 := Lib.hid (HB5.out.trans (b6.mono HB5.out.size))
        have HZ6 := Lib.hid (HZ5.out.keep b6)
        clear b6 c0 c1 HD5 HB5 HZ5
        have HRU := Lib.hid (readI_one w6 (Z : Int) 53)
        have HA7 := Lib.hid ((Below.refl w6.heap.size w6).alloc (Nat.le_refl _) (.cells #[.int .i64 (Z : Int)] 53))
        go_wp2_with fail
        refine (HTB.out _ _ HRU.out).mono ?_
        rintro e w7 ⟨v7, rfl, o7, b7⟩
        have HB7 := Lib.hid ((HB6.out.trans (HA7.out.mono HB6.out.size)).trans (b7.mono (Nat.le_trans HB6.out.size HA7.out.size)))
        have hz9 := (HZ6.out.keep HA7.out).keep b7
        have HOE := Lib.hid (tab_end2 (N := w6.heap.size) (o7.base HA7.out.size (Nat.le_refl _)) HB7.out HZ6.out.lt (Nat.le_succ _) (C : Int))
        obtain ⟨p5, k5, n5, rfl⟩ := ownSS_form o7
        have d0 := hz9.c0
        have d1 := hz9.c1
        have e0 := hz9.f0
        have e1 := hz9.f1
        have hf := hz9.put (c' := (C : Int)) (v := .slice p5 n5 k5)
        have HR := Lib.hid (And.intro hf.c0 hf.c1)
        clear hz9 hf b7 o7 HZ6 HB6 HA7
        go_wp2_with fail
        exact bodyPost_ret (v := .tuple #[.agg #[.int .i64 (C : Int), .slice p5 n5 k5], .bool true]) (by simp [results, Try.results8, go_sem, HR.out.1, HR.out.2]) rfl ⟨_, by rw [HE.out.1, HE.out.2.2], by rw [HE.out.2.1]; exact HOE.out.1, HOE.out.2⟩
end
end Go.Proofs.Ytbldcdlpcidffaa
namespace Go.Proofs.Ytbldcdlpcidffaa
theorem tot_leE : ∀ (l : List (List Int)) (m : Nat), (∀ r ∈ l, r.length ≤ m) → tot l ≤ l.length * m
  | [], _, _ => Nat.zero_le _
  | r :: l, m, h => by
    have h1 := tot_leE l m (fun x hx => h x (List.mem_cons_of_mem _ hx))
    have h2 := h r List.mem_cons_self
    have e : tot (r :: l) = r.length + tot l := by unfold tot; simp
    rw [e, List.length_cons, Nat.succ_mul]
    omega
theorem arm_bd (n : Int) (l : List (Int × Int)) : (armL n l).length ≤ 33 ∧ tot (armL n l) ≤ 165 := by
  unfold armL
  split
  · rename_i h
    obtain ⟨C, rfl, hC1, hC5, -, -⟩ := arD_n h
    have hc := cls_len (C : Int) l
    have h1 : (rowsA C (armP C (clsL (C : Int) l) (clsL (C : Int) l).length)).length ≤ 33 := by
      rw [rowsA_len]
      have := armP_len C (clsL (C : Int) l) (clsL (C : Int) l).length
      omega
    have h2 := tot_leE (rowsA C (armP C (clsL (C : Int) l) (clsL (C : Int) l).length)) 5 (fun r hr => by
      unfold rowsA at hr
      rw [List.mem_map] at hr
      obtain ⟨p, -, rfl⟩ := hr
      rw [rowA_len]
      exact hC5)
    show (rowsA C (armP C (clsL (C : Int) l) (clsL (C : Int) l).length)).length ≤ 33 ∧ tot (rowsA C (armP C (clsL (C : Int) l) (clsL (C : Int) l).length)) ≤ 165
    exact ⟨h1, by omega⟩
  · exact ⟨Nat.zero_le _, Nat.zero_le _⟩
theorem ctr_bd (n : Int) (l : List (Int × Int)) (d : Int × Int) : (ctrL n l d).length ≤ 2 ∧ tot (ctrL n l d) ≤ 10 := by
  unfold ctrL
  split
  · rename_i h
    obtain ⟨C, rfl, hC1, hC5, -, -⟩ := arD_n h.1
    have h2 := tot_leE [rowA (2 ^ C - 1) 0 C, rowA (clo l d.1.toNat) 1 C] 5 (fun r hr => by
      rcases List.mem_cons.1 hr with rfl | hr
      · rw [rowA_len]; exact hC5
      · rw [List.mem_singleton.1 hr, rowA_len]; exact hC5)
    exact ⟨Nat.le_refl _, h2⟩
  · exact ⟨Nat.zero_le _, Nat.zero_le _⟩
end Go.Proofs.Ytbldcdlpcidffaa
namespace Go.Proofs.Ytbldcdlpcidffaa
open Go.RowKit

set_option maxHeartbeats 800000 in
theorem sameInts11_any (v v' : Value) (l l' : List Int) (w : World) (hr : ReadI w v l) (hr' : ReadI w v' l') (hl : l.length ≤ 1000000000) :
    Calls Try.prog 20 #[v, v'] w fun e w' => e = .returned (.bool (eqB l l')) ∧ ∃ m, w' = w.drewN m := by
  obtain ⟨a, cap, rfl, ha⟩ := hr
  obtain ⟨a', cap', rfl, ha'⟩ := hr'
  have HA := Lib.hid ha
  have HA' := Lib.hid ha'
  clear ha ha'
  by_cases hlen : l.length = l'.length
  · have hne : ((l.length : Int) != (l'.length : Int)) = false := by simp [hlen]
    have HL := Lib.hid hlen
    clear hlen
    go_enter Try.func20, Try.ntmps20
    go_wp2_with fail
    go_loopw [5] (fun iv wr => ∃ (k n : Nat), k ≤ l.length ∧ iv = .int .i64 (k : Int) ∧ Hid (l.take k = l'.take k) ∧ wr = w.drewN n) (fun iv _ => l.length - (intOf iv).toNat)
    case atStart => exact ⟨0, 0, by omega, rfl, Lib.hid rfl, rfl⟩
    case round =>
      obtain ⟨k, n, hk, rfl, hsame, rfl⟩ := hrel
      by_cases hlt : k < l.length
      · have hlt' : k < l'.length := by have := HL.out; omega
        obtain ⟨x, rfl, hx⟩ := HA.out k hlt
        obtain ⟨x', rfl, hx'⟩ := HA'.out k hlt'
        have z0 : (0 : Int) ≤ (k : Int) := by omega
        have z1 : (k : Int) < (l.length : Int) := by omega
        have z2 : (k : Int) < (l'.length : Int) := by omega
        by_cases he : l[k] = l'[k]
        · have hb : (l[k] != l'[k]) = false := by simp [he]
          have HE := Lib.hid he
          clear he
          go_wp2_with fail
          go_quiet (fail)
          go_wp2_with fail
          go_roundw
          case rel => exact ⟨k + 1, _, by omega, by go_num, Lib.hid (by rw [List.take_succ_eq_append_getElem hlt, List.take_succ_eq_append_getElem hlt', hsame.out, HE.out]), rfl⟩
          case measure => simp [intOf]; omega
        · have hb : (l[k] != l'[k]) = true := by simpa using he
          have HE := Lib.hid he
          clear he
          go_wp2_with fail
          go_quiet (fail)
          go_wp2_with fail
          go_ret
          exact ⟨ret_b (by unfold eqB; rw [decide_eq_false]; intro e; apply HE.out; simp only [e]), _, World.drewN_drewN _ _ _⟩
      · go_wp2_with fail
        go_ret
        exact ⟨ret_b (by
          unfold eqB
          rw [decide_eq_true]
          have := hsame.out
          rwa [List.take_of_length_le (by omega), List.take_of_length_le (by have := HL.out; omega)] at this), _, rfl⟩
  · have hne : ((l.length : Int) != (l'.length : Int)) = true := by simp; omega
    have HL := Lib.hid hlen
    clear hlen
    go_enter Try.func20, Try.ntmps20
    go_wp2_with fail
    go_ret
    exact ⟨ret_b (by unfold eqB; rw [decide_eq_false]; intro e; exact HL.out (by rw [e])), 0, rfl⟩
theorem same11_any (X : List Int) (v v' : Value) (w' : World) (hX : X.length ≤ 1000000000) (h : ReadI w' v X) (h' : ReadI w' v' X) : Calls Try.prog 20 #[v, v'] w' fun e w'' => e = .returned (.bool true) ∧ Below w'.heap.size w' w'' :=
  (sameInts11_any v v' X X w' h h' hX).mono fun _ _ ⟨x, m, y⟩ => ⟨by rw [x]; simp [eqB], by rw [y]; exact below_drewN (Below.refl _ _) m⟩
theorem readI_at11 {w : World} {a : Option Addr} {n cap : Nat} {l : List Int} (h : ReadI w (.slice a n cap) l) {i : Nat} (hi : i < l.length) : ∃ x, a = some x ∧ w.cell? (x.add i) = some (.int .i64 (l.getD i 0)) := by
  obtain ⟨a', cap', hv, hc⟩ := h
  cases hv
  obtain ⟨x, e, h⟩ := hc i hi
  exact ⟨x, e, by rw [h, List.getD_eq_getElem?_getD, List.getElem?_eq_getElem hi]; rfl⟩
set_option maxHeartbeats 1600000 in
theorem lawHas_any (v : Value) (l : List Int) (x : Int) (w : World) (hr : ReadI w v l) (hl : l.length ≤ 1000000000) (hx : x ∈ l) :
    Calls Try.prog 16 #[v, .int .i64 x] w fun e w' => e = .returned (.bool true) ∧ w = w' := by
  obtain ⟨a, cap, rfl, ha⟩ := hr
  have HA := Lib.hid ha
  have HX := Lib.hid hx
  clear ha hx
  go_enter Try.func16, Try.ntmps16
  go_wp2_with fail
  go_loop [5] (fun iv => ∃ k : Nat, k ≤ l.length ∧ iv = .int .i64 (k : Int) ∧ Hid (x ∉ l.take k)) (fun iv => l.length - (intOf iv).toNat)
  case atStart => exact ⟨0, by omega, rfl, Lib.hid (by simp)⟩
  case round =>
    obtain ⟨k, hk, rfl, hno⟩ := hrel
    by_cases hlt : k < l.length
    · obtain ⟨y, rfl, hy⟩ := HA.out k hlt
      have z0 : (0 : Int) ≤ (k : Int) := by omega
      have z1 : (k : Int) < (l.length : Int) := by omega
      have HT := Lib.hid (List.take_succ_eq_append_getElem hlt)
      obtain ⟨q, hq⟩ : ∃ q, q = l[k] := ⟨_, rfl⟩
      rw [← hq] at hy HT
      clear hq
      by_cases he : q = x
      · subst he
        have hb : (q == q) = true := by simp
        go_wp2_with fail
        go_ret
        exact ⟨rfl, rfl⟩
      · have hb : (q == x) = false := by simpa using he
        have HN := Lib.hid he
        clear he
        go_wp2_with fail
        go_round
        case rel => exact ⟨k + 1, by omega, by go_num, Lib.hid (by rw [HT.out, List.mem_append, List.mem_singleton]; rintro (h | h); exact hno.out h; exact HN.out h.symm)⟩
        case measure => simp [intOf]; omega
    · obtain rfl : k = l.length := by omega
      exact (hno.out (by rw [List.take_length]; exact HX.out)).elim
theorem sub_int12 {x y : Nat} (hx : x < 32) (hy : y < 32) (h : subN x y = true) : bits .and .i64 (y : Int) (x : Int) = (x : Int) := by
  have k : ∀ x y : Fin 32, subN x.val y.val = true → bits .and .i64 ((y.val : Nat) : Int) ((x.val : Nat) : Int) = ((x.val : Nat) : Int) := by decide +kernel
  exact k ⟨x, hx⟩ ⟨y, hy⟩ h
theorem sub_int12r {x y : Nat} (hx : x < 32) (hy : y < 32) (h : bits .and .i64 (y : Int) (x : Int) = (x : Int)) : subN x y = true := by
  have k : ∀ x y : Fin 32, bits .and .i64 ((y.val : Nat) : Int) ((x.val : Nat) : Int) = ((x.val : Nat) : Int) → subN x.val y.val = true := by decide +kernel
  exact k ⟨x, hx⟩ ⟨y, hy⟩ h
theorem drv_bd {C : Nat} {l : List (Int × Int)} (hC : C ≤ 5) (hl : DepsN C l) (R : Nat) : ∀ k x, x < 32 → ∀ t ∈ drv l R k x, 0 ≤ t.1 ∧ t.1 < (l.length : Int) ∧ (0 ≤ t.2.1 ∧ t.2.1 < 32) ∧ 0 ≤ t.2.2 ∧ t.2.2 < 32
  | 0, x, _ => fun t ht => by cases ht
  | k + 1, x, hx => fun t ht => by
    unfold drv at ht
    split at ht
    · cases ht
    · split at ht
      · rename_i hf
        obtain ⟨L', R', e, hL', hR'⟩ := hl _ (memD hf)
        rw [e] at ht
        have hR5 : R' < 5 := by omega
        have ho := (orN_fin ⟨x, hx⟩ ⟨R', hR5⟩).1
        simp only at ho
        rcases List.mem_cons.1 ht with rfl | ht
        · refine ⟨Int.natCast_nonneg _, by show ((frst l x : Nat) : Int) < _; omega, ⟨Int.natCast_nonneg _, by show ((x : Nat) : Int) < 32; omega⟩, Int.natCast_nonneg _, ?_⟩
          show ((orN x R' : Nat) : Int) < 32
          omega
        · exact drv_bd hC hl R k _ ho t ht
      · cases ht
theorem der_bd {n : Int} {l : List (Int × Int)} {d : Int × Int} : ∀ t ∈ derL n l d, (0 ≤ t.1 ∧ t.1 ≤ 20) ∧ (0 ≤ t.2.1 ∧ t.2.1 < 32) ∧ 0 ≤ t.2.2 ∧ t.2.2 < 32 := by
  intro t ht
  unfold derL at ht
  split at ht
  · rename_i h
    unfold impB at h
    rw [Bool.and_eq_true, Bool.and_eq_true] at h
    obtain ⟨ha, hb, -⟩ := h
    obtain ⟨C, rfl, h1, h5, h20, hd⟩ := arD_n ha
    obtain ⟨-, hA, -⟩ := depB_iff.1 hb
    obtain ⟨X, hX, hX32, -⟩ := isA_lt12 h5 hA
    have := drv_bd h5 hd d.2.toNat 6 d.1.toNat (by omega) t ht
    omega
  · cases ht
/-- Steps that fit. -/
def StepsBd (s : List (Int × Int × Int)) : Prop := s.length ≤ 5 ∧ ∀ t ∈ s, (-1 ≤ t.1 ∧ t.1 ≤ 20) ∧ (0 ≤ t.2.1 ∧ t.2.1 < 32) ∧ 0 ≤ t.2.2 ∧ t.2.2 < 32
theorem StepsBd.wf {s : List (Int × Int × Int)} (h : StepsBd s) : ∀ t ∈ s, (Lit.int .i64 t.1).wf = true ∧ (Lit.int .i64 t.2.1).wf = true ∧ (Lit.int .i64 t.2.2).wf = true := fun t ht => by
  obtain ⟨h1, h2, h3⟩ := h.2 t ht
  exact ⟨wf_sm (by omega) (by omega), wf_sm (by omega) (by omega), wf_sm (by omega) (by omega)⟩
theorem der_steps (n : Int) (l : List (Int × Int)) (d : Int × Int) : StepsBd (derL n l d) := ⟨der_short n l d, fun t ht => by have := der_bd t ht; omega⟩
theorem sat_ctr {n : Int} {l : List (Int × Int)} {d : Int × Int} (h : ctrB n l d = true) : satB n (ctrL n l d) 0 l = true ∧ holdsD n (ctrL n l d) 0 d.1 d.2 = false := by
  obtain ⟨h1, h2, h3, -⟩ := ctr_facts h
  refine ⟨?_, h3⟩
  unfold satB fineT
  rw [h1, List.all_eq_true.2 h2]
  rfl
/-- What is known of a dependency, a derivation, a counterexample and the closed sets. -/
structure CA (n : Int) (l : List (Int × Int)) (x y : Int) (is a b : Bool) (ts : List (Int × Int × Int)) (tl : List (List Int)) (tc : Int) (cs : List Int) : Prop where
  i1 : ∀ w' v, ReadD w' v l → Calls Try.prog 6 #[.int .i64 n, v, .agg #[.int .i64 x, .int .i64 y]] w' fun e w'' => e = .returned (.bool is) ∧ Below w'.heap.size w' w''
  i2 : ∀ w' v, ReadD w' v l → Calls Try.prog 9 #[.int .i64 n, v, .agg #[.int .i64 x, .int .i64 y]] w' fun e w'' => e = .returned (.bool is) ∧ Below w'.heap.size w' w''
  de : ∀ w' v, ReadD w' v l → Calls Try.prog 7 #[.int .i64 n, v, .agg #[.int .i64 x, .int .i64 y]] w' (RetDer ts is w')
  ct : ∀ w' v, ReadD w' v l → Calls Try.prog 8 #[.int .i64 n, v, .agg #[.int .i64 x, .int .i64 y]] w' (RetTB tc tl (a && b && !is) w')
  ck : is = true → ∀ w' v vs, ReadD w' v l → ReadT w' vs ts → Calls Try.prog 10 #[.int .i64 n, v, .agg #[.int .i64 x, .int .i64 y], vs] w' fun e w'' => e = .returned (.bool true) ∧ Below w'.heap.size w' w''
  tl5 : ts.length ≤ 5
  ar : ∀ w' v, ReadD w' v l → Calls Try.prog 11 #[.int .i64 n, v] w' fun e w'' => e = .returned (.bool a) ∧ Below w'.heap.size w' w''
  id : ∀ w', Calls Try.prog 12 #[.int .i64 n, .agg #[.int .i64 x, .int .i64 y]] w' fun e w'' => e = .returned (.bool b) ∧ Below w'.heap.size w' w''
  sa : (a && b && !is) = true → ∀ w' u v, ReadSS w' u tl → ReadD w' v l → Calls Try.prog 13 #[.agg #[.int .i64 tc, u], .int .i64 0, v] w' fun e w'' => e = .returned (.bool true) ∧ Below w'.heap.size w' w''
  hd : (a && b && !is) = true → ∀ w' u, ReadSS w' u tl → Calls Try.prog 14 #[.agg #[.int .i64 tc, u], .int .i64 0, .agg #[.int .i64 x, .int .i64 y]] w' fun e w'' => e = .returned (.bool false) ∧ Below w'.heap.size w' w''
  two : (a && b && !is) = true → tl.length = 2
  c1 : ∀ w' v, ReadD w' v l → Calls Try.prog 15 #[.int .i64 n, v] w' (RetI cs w')
  c2 : ∀ w' v, ReadD w' v l → Calls Try.prog 21 #[.int .i64 n, v] w' (RetI cs w')
  cl : cs.length ≤ 32
  cp : (a && b) = true → ∃ L R : Nat, x = (L : Int) ∧ y = (R : Int) ∧ R < 5 ∧ ∀ z ∈ cs, ∃ Z : Nat, z = (Z : Int) ∧ (∀ z2 ∈ cs, bits .and .i64 z z2 ∈ cs) ∧ (is = true → bits .and .i64 (Z : Int) (L : Int) = (L : Int) → bitB Z R = true)
  im : is = true → (a && b) = true
theorem ca_of {n x y : Int} {l : List (Int × Int)} (hn : 0 ≤ n ∧ n ≤ 6) (hbd : DepsBd l) (hx : -1 ≤ x ∧ x ≤ 33) (hy : -1 ≤ y ∧ y ≤ 5) : ∃ is a b ts tl tc cs, CA n l x y is a b ts tl tc cs := by
  have hl20 := hbd.1
  have hw := hbd.wf
  have hn' := wf_sm (x := n) (by omega) (by omega)
  have hx' := wf_sm (x := x) (by omega) (by omega)
  have hy' := wf_sm (x := y) (by omega) (by omega)
  have hcb : ctrB n l (x, y) = (arD n l && depB n x y && !impB n l (x, y)) := by
    unfold ctrB
    cases arD n l <;> cases depB n x y <;> cases impB n l (x, y) <;> rfl
  have hbd2 := ctr_bd n l (x, y)
  refine ⟨impB n l (x, y), arD n l, depB n x y, derL n l (x, y), ctrL n l (x, y), ctrC n l (x, y), clsL n l, fun w' v hr => implImpliesDep_any v n x y l hn' hw hx' hy' w' hr (by omega), fun w' v hr => impliesDep10_any v n x y l w' hr (by omega),
    fun w' v hr => implDeriveDep_any v n x y l hn' hw hx' hy' w' hr (by omega), fun w' v hr => ?_, fun his w' v vs hr hs => ?_, der_short n l (x, y), fun w' v hr => areDeps10_any v n l w' hr (by omega), fun w' => isDep_any n x y w',
    fun hc w' u v hu hr => ?_, fun hc w' u hu => ?_, fun hc => ?_, fun w' v hr => implClosedSets_any v n l hn' hw w' hr (by omega), fun w' v hr => closedSets10_any v n l w' hr (by omega), cls_len n l, fun hab => ?_, fun his => ?_⟩
  · have := implCtr_any v n x y l hn' hw hx' hy' w' hr (by omega)
    rw [hcb] at this
    exact this
  · have := implCheckDer_any v vs n x y l (derL n l (x, y)) hn' hw hx' hy' (der_steps n l (x, y)).wf w' hr (by omega) hs (by have := der_short n l (x, y); omega)
    rw [der_right his] at this
    exact this
  · rw [← hcb] at hc
    have hcc : ctrC n l (x, y) = n := by unfold ctrC; rw [hc]; rfl
    rw [hcc]
    have := satisfiesAll12_any n 0 u v (ctrL n l (x, y)) l w' hu (by omega) (fun i hi => by have := tot_get hi; omega) hr (by omega)
    rw [(sat_ctr hc).1] at this
    exact this
  · rw [← hcb] at hc
    have hcc : ctrC n l (x, y) = n := by unfold ctrC; rw [hc]; rfl
    rw [hcc]
    have := holdsDep_any n 0 x y u (ctrL n l (x, y)) w' hu (by omega) (fun i hi => by have := tot_get hi; omega)
    rw [(sat_ctr hc).2] at this
    exact this
  · rw [← hcb] at hc
    exact (ctr_facts hc).2.2.2
  · rw [Bool.and_eq_true] at hab
    obtain ⟨ha, hb⟩ := hab
    obtain ⟨C, rfl, h1, h5, h20, hd⟩ := arD_n ha
    obtain ⟨-, hA, hr0, hr1⟩ := depB_iff.1 hb
    obtain ⟨L, rfl, hL32, hL⟩ := isA_lt12 h5 hA
    obtain ⟨R, rfl⟩ : ∃ R : Nat, y = (R : Int) := ⟨y.toNat, by omega⟩
    have h32 := two5 h5
    refine ⟨L, R, rfl, rfl, by omega, fun z hz => ?_⟩
    obtain ⟨Z, hZ, hZc, rfl⟩ := (cls_mem ha z).1 hz
    refine ⟨Z, rfl, fun z2 hz2 => cls_and h5 hd ha hz hz2, fun his hzl => ?_⟩
    have hi : bitB (clo l L) R = true := by
      unfold impB at his
      rw [ha, hb] at his
      simpa using his
    exact cls_imp h5 hd hL32 (by omega) (by omega) hi hZc (sub_int12r hL32 (by omega) hzl)
  · unfold impB at his
    rw [Bool.and_eq_true, Bool.and_eq_true] at his
    rw [his.1, his.2.1]
    rfl
/-- The closure of a set. -/
structure CB (m : Int) (e : List (Int × Int)) (s z : Int) (a b : Bool) : Prop where
  c1 : ∀ w' v, ReadD w' v e → Calls Try.prog 18 #[.int .i64 m, v, .int .i64 s] w' fun e w'' => e = .returned (.int .i64 z) ∧ Below w'.heap.size w' w''
  c2 : ∀ w' v, ReadD w' v e → Calls Try.prog 22 #[.int .i64 m, v, .int .i64 s] w' fun e w'' => e = .returned (.int .i64 z) ∧ Below w'.heap.size w' w''
  ar : ∀ w' v, ReadD w' v e → Calls Try.prog 11 #[.int .i64 m, v] w' fun e w'' => e = .returned (.bool a) ∧ Below w'.heap.size w' w''
  ia : ∀ w', Calls Try.prog 23 #[.int .i64 m, .int .i64 s] w' fun e w'' => e = .returned (.bool b) ∧ Below w'.heap.size w' w''
  zz : a = true → b = true → ∀ w' v, ReadD w' v e → Calls Try.prog 18 #[.int .i64 m, v, .int .i64 z] w' fun e w'' => e = .returned (.int .i64 z) ∧ Below w'.heap.size w' w''
  zs : a = true → b = true → bits .and .i64 z s = s
theorem cb_of {m s : Int} {e : List (Int × Int)} (hm : -100 ≤ m ∧ m ≤ 100) (hbd : DepsBd e) (hs : -1 ≤ s ∧ s ≤ 40) : ∃ z a b, CB m e s z a b := by
  have hl20 := hbd.1
  have hw := hbd.wf
  have hm' := wf_sm (x := m) (by omega) (by omega)
  have hs' := wf_sm (x := s) (by omega) (by omega)
  refine ⟨cloZ m e s, arD m e, isA m s, fun w' v hr => implClosureOf_any v m s e hm' hw hs' w' hr (by omega), fun w' v hr => closureOf10_any v m s e w' hr (by omega), fun w' v hr => areDeps10_any v m e w' hr (by omega), fun w' => (isA_any m s w').mono fun _ _ ⟨p, q⟩ => ⟨p, by rw [← q]; exact Below.refl _ _⟩, fun ha hi w' v hr => ?_, fun ha hi => ?_⟩
  · obtain ⟨C, rfl, h1, h5, h20, hd⟩ := arD_n ha
    obtain ⟨S, rfl, hS32, hS⟩ := isA_lt12 h5 hi
    obtain ⟨k1, k2, k3, k4, k5⟩ := clo_spec h5 hd (x := S) hS32
    have e1 : cloZ (C : Int) e (S : Int) = (clo e S : Int) := by unfold cloZ; rw [ha, hi]; rfl
    rw [e1]
    have := implClosureOf_any v (C : Int) (clo e S : Int) e hm' hw (wf_sm (by omega) (by omega)) w' hr (by omega)
    have e2 : cloZ (C : Int) e (clo e S : Int) = (clo e S : Int) := by
      have hi2 := isA_fit h5 (k3 hS)
      unfold cloZ; rw [ha, hi2]
      show ((clo e (clo e S) : Nat) : Int) = _
      rw [clo_clo h5 hd hS32]
    rw [e2] at this
    exact this
  · obtain ⟨C, rfl, h1, h5, h20, hd⟩ := arD_n ha
    obtain ⟨S, rfl, hS32, hS⟩ := isA_lt12 h5 hi
    obtain ⟨k1, k2, k3, k4, k5⟩ := clo_spec h5 hd (x := S) hS32
    have e1 : cloZ (C : Int) e (S : Int) = (clo e S : Int) := by unfold cloZ; rw [ha, hi]; rfl
    rw [e1]
    exact sub_int12 hS32 k1 k2
/-- A derivation looked at. -/
structure CC (m : Int) (e : List (Int × Int)) (x y : Int) (s : List (Int × Int × Int)) (b : Bool) : Prop where
  k1 : ∀ w' v vs, ReadD w' v e → ReadT w' vs s → Calls Try.prog 10 #[.int .i64 m, v, .agg #[.int .i64 x, .int .i64 y], vs] w' fun e w'' => e = .returned (.bool b) ∧ Below w'.heap.size w' w''
  k2 : ∀ w' v vs, ReadD w' v e → ReadT w' vs s → Calls Try.prog 24 #[.int .i64 m, v, .agg #[.int .i64 x, .int .i64 y], vs] w' fun e w'' => e = .returned (.bool b) ∧ Below w'.heap.size w' w''
theorem cc_of {m x y : Int} {e : List (Int × Int)} {s : List (Int × Int × Int)} (hm : 0 ≤ m ∧ m ≤ 6) (hbd : DepsBd e) (hx : -1 ≤ x ∧ x ≤ 33) (hy : -1 ≤ y ∧ y ≤ 5) (hs : StepsBd s) : ∃ b, CC m e x y s b := by
  have hl20 := hbd.1
  have h5 := hs.1
  exact ⟨_, fun w' v vs h h' => implCheckDer_any v vs m x y e s (wf_sm (by omega) (by omega)) hbd.wf (wf_sm (by omega) (by omega)) (wf_sm (by omega) (by omega)) hs.wf w' h (by omega) h' (by omega), fun w' v vs h h' => checkDer10_any v vs m x y e s w' h (by omega) h' (by omega)⟩
end Go.Proofs.Ytbldcdlpcidffaa
