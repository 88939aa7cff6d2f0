/- The program's chapter 12: CounterTable, by contract. Conditions: as stated. -/
import Derived.Test.YtpnapdhcdhcacaaXa36
import Derived.Test.YtpnapdhcdhcacaaXa26
import Derived.Test.YtpnapdhcdhcacaaExCm
namespace Go.Proofs.Ytpnapdhcdhcacaa
open Go.RowKit

theorem readI_one (w : World) (x : Int) (T : TypeId) : ReadI (w.alloc (.cells #[.int .i64 x] T)) (.slice (some ⟨w.heap.size, 0, none⟩) 1 1) [x] :=
  ⟨_, _, rfl, fun i hi => by
    obtain rfl : i = 0 := by simp at hi; omega
    exact ⟨_, rfl, one_at w T (.int .i64 x)⟩⟩
theorem tab_end2 {w x : World} {N t : Nat} {v : Value} {L : List (List Int)} (ho : OwnSS x N x.heap.size v L) (hb : Below w.heap.size w x) (hN : t < N) (ht : w.heap.size ≤ t) (c : Int) :
    OwnSS ((x.setCell ⟨t, 0, none⟩ (.int .i64 c)).setCell ⟨t, 1, none⟩ v) w.heap.size ((x.setCell ⟨t, 0, none⟩ (.int .i64 c)).setCell ⟨t, 1, none⟩ v).heap.size v L ∧ Below w.heap.size w ((x.setCell ⟨t, 0, none⟩ (.int .i64 c)).setCell ⟨t, 1, none⟩ v) := by
  have h3 := ho.same ((Same.refl N x.heap.size x).setCell (p := ⟨t, 0, none⟩) (.inl hN) (.int .i64 c))
  have h4 := h3.same ((Same.refl N x.heap.size _).setCell (p := ⟨t, 1, none⟩) (.inl hN) v)
  exact ⟨h4.base (by omega) (by simp), (hb.setCell (p := ⟨t, 0, none⟩) ht (.int .i64 c)).setCell (p := ⟨t, 1, none⟩) ht v⟩
section
set_option maxRecDepth 20000
set_option maxHeartbeats 3200000
theorem implCtr_any (v : Value) (n x y : Int) (l : List (Int × Int)) (_w0 : (Lit.int .i64 n).wf = true) (bd : ∀ d ∈ l, (Lit.int .i64 d.1).wf = true ∧ (Lit.int .i64 d.2).wf = true) (_wx : (Lit.int .i64 x).wf = true) (_wy : (Lit.int .i64 y).wf = true) (w : World) (hr : ReadD w v l) (hl : l.length ≤ 1048576) :
    Calls Try.prog 18 #[.int .i64 n, v, .agg #[.int .i64 x, .int .i64 y]] w (RetTB (ctrC n l (x, y)) (ctrL n l (x, y)) (ctrB n l (x, y)) w) := by
  have hb1 := (Below.refl w.heap.size w).alloc (Nat.le_refl _) (.cells #[.int .i64 x, .int .i64 y] 39)
  have hb2 := hb1.alloc hb1.size (.cells #[.int .i64 0, .slice none 0 0] 26)
  have hba := (Below.refl (w.alloc (.cells #[.int .i64 x, .int .i64 y] 39)).heap.size _).alloc (Nat.le_refl _) (.cells #[.int .i64 0, .slice none 0 0] 26)
  have HD2 := Lib.hid ((bx_new w x y).keep hba)
  have hz := bxt_new (w.alloc (.cells #[.int .i64 x, .int .i64 y] 39)) 0 (.slice none 0 0)
  rw [World.size_alloc] at hz
  have HZ2 := Lib.hid hz
  have HB2 := Lib.hid hb2
  have HAD := Lib.hid (fun w' (hb : Below w.heap.size w w') => implAreDeps_any v n l _w0 bd w' (hr.kept hb) hl)
  have HID := Lib.hid (fun w' => implIsDep_all n x y _wx w')
  have HIM := Lib.hid (fun w' (hb : Below w.heap.size w w') => implImpliesDep_any v n x y l _w0 bd _wx _wy w' (hr.kept hb) hl)
  have HCL := Lib.hid (fun w' (hb : Below w.heap.size w w') => implClosureOf_any v n x l _w0 bd _wx w' (hr.kept hb) hl)
  clear hb1 hb2 hba hz bd
  have c0 := HD2.out.c0
  have c1 := HD2.out.c1
  cases ha : arD n l with
  | false =>
    rw [ha] at HAD
    have HE := Lib.hid (ctr_none (n := n) (l := l) (d := (x, y)) (by rw [ha]; simp))
    obtain ⟨a, cap, rfl, -⟩ := hr
    clear ha
    go_enter Try.func18, Try.ntmps18
    go_wp2_with fail
    refine (HAD.out _ HB2.out).mono ?_
    rintro e w3 ⟨rfl, b3⟩
    have HB3 := Lib.hid (HB2.out.trans (b3.mono HB2.out.size))
    have HD3 := Lib.hid (HD2.out.keep b3)
    have HZ3 := Lib.hid (HZ2.out.keep b3)
    clear b3 c0 c1
    have c0 := HD3.out.c0
    have c1 := HD3.out.c1
    have hz9 := HZ3.out
    have d0 := hz9.c0
    have d1 := hz9.c1
    have e0 := hz9.f0
    have e1 := hz9.f1
    have hf := hz9.put (c' := 0) (v := .slice none 0 0)
    have HR := Lib.hid (And.intro hf.c0 hf.c1)
    have HBE := Lib.hid ((HB3.out.setCell (p := ⟨w.heap.size + 1, 0, none⟩) (by simp) (.int .i64 0)).setCell (p := ⟨w.heap.size + 1, 1, none⟩) (by simp) (.slice none 0 0))
    clear hz9 hf
    go_wp2_with fail
    exact bodyPost_ret (v := .tuple #[.agg #[.int .i64 0, .slice none 0 0], .bool false]) (by simp [results, Try.results18, go_sem, HR.out.1, HR.out.2]) rfl ⟨_, by rw [HE.out.1, HE.out.2.2], by rw [HE.out.2.1]; exact OwnSS.nil _ _ _, HBE.out⟩
  | true =>
    rw [ha] at HAD
    cases hd : depB n x y with
    | false =>
      rw [hd] at HID
      have HE := Lib.hid (ctr_none (n := n) (l := l) (d := (x, y)) (by rw [hd]; simp))
      obtain ⟨a, cap, rfl, -⟩ := hr
      clear ha hd
      go_enter Try.func18, Try.ntmps18
      go_wp2_with fail
      refine (HAD.out _ HB2.out).mono ?_
      rintro e w3 ⟨rfl, b3⟩
      have HB3 := Lib.hid (HB2.out.trans (b3.mono HB2.out.size))
      have HD3 := Lib.hid (HD2.out.keep b3)
      have HZ3 := Lib.hid (HZ2.out.keep b3)
      clear b3 c0 c1
      have c0 := HD3.out.c0
      have c1 := HD3.out.c1
      go_wp2_with fail
      refine (HID.out _).mono ?_
      rintro e w4 ⟨rfl, b4⟩
      have HB4 := Lib.hid (HB3.out.trans (b4.mono HB3.out.size))
      have HD4 := Lib.hid (HD3.out.keep b4)
      have HZ4 := Lib.hid (HZ3.out.keep b4)
      clear b4 c0 c1
      have c0 := HD4.out.c0
      have c1 := HD4.out.c1
      have hz9 := HZ4.out
      have d0 := hz9.c0
      have d1 := hz9.c1
      have e0 := hz9.f0
      have e1 := hz9.f1
      have hf := hz9.put (c' := 0) (v := .slice none 0 0)
      have HR := Lib.hid (And.intro hf.c0 hf.c1)
      have HBE := Lib.hid ((HB4.out.setCell (p := ⟨w.heap.size + 1, 0, none⟩) (by simp) (.int .i64 0)).setCell (p := ⟨w.heap.size + 1, 1, none⟩) (by simp) (.slice none 0 0))
      clear hz9 hf
      go_wp2_with fail
      exact bodyPost_ret (v := .tuple #[.agg #[.int .i64 0, .slice none 0 0], .bool false]) (by simp [results, Try.results18, go_sem, HR.out.1, HR.out.2]) rfl ⟨_, by rw [HE.out.1, HE.out.2.2], by rw [HE.out.2.1]; exact OwnSS.nil _ _ _, HBE.out⟩
    | true =>
      rw [hd] at HID
      cases hi : impB n l (x, y) with
      | true =>
        rw [hi] at HIM
        have HE := Lib.hid (ctr_none (n := n) (l := l) (d := (x, y)) (by rw [hi]; simp))
        obtain ⟨a, cap, rfl, -⟩ := hr
        clear ha hd hi
        go_enter Try.func18, Try.ntmps18
        go_wp2_with fail
        refine (HAD.out _ HB2.out).mono ?_
        rintro e w3 ⟨rfl, b3⟩
        have HB3 := Lib.hid (HB2.out.trans (b3.mono HB2.out.size))
        have HD3 := Lib.hid (HD2.out.keep b3)
        have HZ3 := Lib.hid (HZ2.out.keep b3)
        clear b3 c0 c1
        have c0 := HD3.out.c0
        have c1 := HD3.out.c1
        go_wp2_with fail
        refine (HID.out _).mono ?_
        rintro e w4 ⟨rfl, b4⟩
        have HB4 := Lib.hid (HB3.out.trans (b4.mono HB3.out.size))
        have HD4 := Lib.hid (HD3.out.keep b4)
        have HZ4 := Lib.hid (HZ3.out.keep b4)
        clear b4 c0 c1
        have c0 := HD4.out.c0
        have c1 := HD4.out.c1
        go_wp2_with fail
        refine (HIM.out _ HB4.out).mono ?_
        rintro e w5 ⟨rfl, b5⟩
        have HB5 := Lib.hid (HB4.out.trans (b5.mono HB4.out.size))
        have HD5 := Lib.hid (HD4.out.keep b5)
        have HZ5 := Lib.hid (HZ4.out.keep b5)
        clear b5 c0 c1
        have c0 := HD5.out.c0
        have c1 := HD5.out.c1
        have hz9 := HZ5.out
        have d0 := hz9.c0
        have d1 := hz9.c1
        have e0 := hz9.f0
        have e1 := hz9.f1
        have hf := hz9.put (c' := 0) (v := .slice none 0 0)
        have HR := Lib.hid (And.intro hf.c0 hf.c1)
        have HBE := Lib.hid ((HB5.out.setCell (p := ⟨w.heap.size + 1, 0, none⟩) (by simp) (.int .i64 0)).setCell (p := ⟨w.heap.size + 1, 1, none⟩) (by simp) (.slice none 0 0))
        clear hz9 hf
        go_wp2_with fail
        exact bodyPost_ret (v := .tuple #[.agg #[.int .i64 0, .slice none 0 0], .bool false]) (by simp [results, Try.results18, go_sem, HR.out.1, HR.out.2]) rfl ⟨_, by rw [HE.out.1, HE.out.2.2], by rw [HE.out.2.1]; exact OwnSS.nil _ _ _, HBE.out⟩
      | false =>
        rw [hi] at HIM
        have hB : ctrB n l (x, y) = true := decide_eq_true ⟨ha, hd, hi⟩
        obtain ⟨C, rfl, hC1, hC5, -, hdl⟩ := arD_n ha
        have h32 := two5 hC5
        obtain ⟨-, hA, -, -⟩ := depB_iff.1 hd
        obtain ⟨X, hX, hX32, hXC⟩ := isA_lt12 hC5 hA
        have hcz : cloZ (C : Int) l x = (clo l X : Int) := by
          unfold cloZ; rw [ha, hA, hX]; rfl
        obtain ⟨c1', c2', c3', c4', c5'⟩ := clo_spec hC5 hdl (x := X) hX32
        have hK := c3' hXC
        have HE : Hid (ctrC (C : Int) l (x, y) = (C : Int) ∧ ctrL (C : Int) l (x, y) = List.replicate C 0 :: rowsA C (zpN (fun j => (([(clo l X : Int)] : List Int).getD j 0).toNat) 1) ∧ ctrB (C : Int) l (x, y) = true) := Lib.hid ⟨by unfold ctrC; rw [hB]; rfl, by rw [ctr_rows hB, hX]; rfl, hB⟩
        rw [hcz] at HCL
        obtain ⟨Z, hZ⟩ : ∃ Z, Z = clo l X := ⟨_, rfl⟩
        rw [← hZ] at HCL HE hK
        have HTA := Lib.hid (fun u w' (hu : ReadI w' u [(Z : Int)]) => tableA_any C hC5 u [(Z : Int)] (fun x hx => by
          rw [List.mem_singleton] at hx
          exact ⟨Z, hx, by omega⟩) w' hu (show 1 ≤ 32 by decide))
        obtain ⟨LL, hLL⟩ : ∃ LL, LL = List.replicate C 0 :: rowsA C (zpN (fun j => (([(Z : Int)] : List Int).getD j 0).toNat) 1) := ⟨_, rfl⟩
        have HTB : Hid (∀ u w', ReadI w' u [(Z : Int)] → Calls Try.prog 45 #[u, .int .i64 (C : Int)] w' (RetT12 (C : Int) LL w')) := Lib.hid (fun u w' hu => by rw [hLL]; exact HTA.out u w' hu)
        rw [← hLL] at HE
        obtain ⟨a, cap, rfl, -⟩ := hr
        clear ha hd hi hB hdl h32 hA hX hX32 hXC hcz c1' c2' c3' c4' c5' hK hZ hLL HTA
        go_enter Try.func18, Try.ntmps18
        go_wp2_with fail
        refine (HAD.out _ HB2.out).mono ?_
        rintro e w3 ⟨rfl, b3⟩
        have HB3 := Lib.hid (HB2.out.trans (b3.mono HB2.out.size))
        have HD3 := Lib.hid (HD2.out.keep b3)
        have HZ3 := Lib.hid (HZ2.out.keep b3)
        clear b3 c0 c1
        have c0 := HD3.out.c0
        have c1 := HD3.out.c1
        go_wp2_with fail
        refine (HID.out _).mono ?_
        rintro e w4 ⟨rfl, b4⟩
        have HB4 := Lib.hid (HB3.out.trans (b4.mono HB3.out.size))
        have HD4 := Lib.hid (HD3.out.keep b4)
        have HZ4 := Lib.hid (HZ3.out.keep b4)
        clear b4 c0 c1
        have c0 := HD4.out.c0
        have c1 := HD4.out.c1
        go_wp2_with fail
        refine (HIM.out _ HB4.out).mono ?_
        rintro e w5 ⟨rfl, b5⟩
        have HB5 := Lib.hid (HB4.out.trans (b5.mono HB4.out.size))
        have HD5 := Lib.hid (HD4.out.keep b5)
        have HZ5 := Lib.hid (HZ4.out.keep b5)
        clear b5 c0 c1
        have c0 := HD5.out.c0
        have c1 := HD5.out.c1
        go_wp2_with fail
        refine (HCL.out _ HB5.out).mono ?_
        rintro e w6 ⟨rfl, b6⟩
        have HB6 := Lib.hid (HB5.out.trans (b6.mono HB5.out.size))
        have HZ6 := Lib.hid (HZ5.out.keep b6)
        clear b6 c0 c1 HD5 HB5 HZ5
        have HRU := Lib.hid (readI_one w6 (Z : Int) 63)
        have HA7 := Lib.hid ((Below.refl w6.heap.size w6).alloc (Nat.le_refl _) (.cells #[.int .i64 (Z : Int)] 63))
        go_wp2_with fail
        refine (HTB.out _ _ HRU.out).mono ?_
        rintro e w7 ⟨v7, rfl, o7, b7⟩
        have HB7 := Lib.hid ((HB6.out.trans (HA7.out.mono HB6.out.size)).trans (b7.mono (Nat.le_trans HB6.out.size HA7.out.size)))
        have hz9 := (HZ6.out.keep HA7.out).keep b7
        have HOE := Lib.hid (tab_end2 (N := w6.heap.size) (o7.base HA7.out.size (Nat.le_refl _)) HB7.out HZ6.out.lt (Nat.le_succ _) (C : Int))
        obtain ⟨p5, k5, n5, rfl⟩ := ownSS_form o7
        have d0 := hz9.c0
        have d1 := hz9.c1
        have e0 := hz9.f0
        have e1 := hz9.f1
        have hf := hz9.put (c' := (C : Int)) (v := .slice p5 n5 k5)
        have HR := Lib.hid (And.intro hf.c0 hf.c1)
        clear hz9 hf b7 o7 HZ6 HB6 HA7
        go_wp2_with fail
        exact bodyPost_ret (v := .tuple #[.agg #[.int .i64 (C : Int), .slice p5 n5 k5], .bool true]) (by simp [results, Try.results18, go_sem, HR.out.1, HR.out.2]) rfl ⟨_, by rw [HE.out.1, HE.out.2.2], by rw [HE.out.2.1]; exact HOE.out.1, HOE.out.2⟩
end
end Go.Proofs.Ytpnapdhcdhcacaa
