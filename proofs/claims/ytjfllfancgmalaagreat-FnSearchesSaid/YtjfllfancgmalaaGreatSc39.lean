/- Texts of this claim, merged: HasD, FnSeaB. Conditions: as stated. -/
import Derived.Test.YtjfllfancgmalaaGreatSc36
import Derived.Laws.StructEq
import Derived.Deep.RegionLaw
import Derived.Test.YtjfllfancgmalaaGreatSc24
import Derived.Test.YtjfllfancgmalaaGreatSeDraw3m
import Derived.Test.YtjfllfancgmalaaGreatSc23
import Derived.Test.YtjfllfancgmalaaGreatSc30
namespace Go.Proofs.YtjfllfancgmalaaGreat
open Go.RowKit

set_option maxRecDepth 20000 in
theorem eq_dep (a b c d : Int) (w : World) : (Op.equalIn 10000 38 (.agg #[.int .i64 a, .int .i64 b]) (.agg #[.int .i64 c, .int .i64 d])).run Tryz.prog w = .ok (a == c && b == d) w := by
  have u3 := Tryz.underlying3
  have a3 := Tryz.isAgg3
  have z3 := Tryz.sizeOf3
  have hS : Tryz.prog.underlying 38 = some (.struct (Tryz.prog.fieldsOf 38)) := by kernel_rfl
  have hp : Tryz.prog.stoodInHeld 38 = false := by kernel_rfl
  rw [show (10000 : Nat) = 9999 + 1 from rfl, run_equalIn_agg w 9999 38 _ _ hS hp]
  simp only [Program.fieldsOf, Tryz.underlying38]
  go_simp
  by_cases h1 : a = c <;> by_cases h2 : b = d <;> simp [h1, h2]
theorem readD_at {w : World} {a : Option Addr} {n cap : Nat} {ds : List (Int × Int)} (h : ReadD w (.slice a n cap) ds) {i : Nat} (hi : i < ds.length) : ∃ b o, a = some ⟨b, o, none⟩ ∧ w.cell? ⟨b, o + i * 2, none⟩ = some (.int .i64 (ds.getD i (0, 0)).1) ∧ w.cell? ⟨b, o + i * 2 + 1, none⟩ = some (.int .i64 (ds.getD i (0, 0)).2) := by
  obtain ⟨a', cap', hv, hc⟩ := h
  cases hv
  exact hc i hi
section
set_option maxRecDepth 20000
set_option maxHeartbeats 1600000
theorem hasDep_mem (v : Value) (ds : List (Int × Int)) (x y : Int) (w : World) (hr : ReadD w v ds) (hl : ds.length ≤ 1048576) (hm : (x, y) ∈ ds) :
    Calls Tryz.prog 16 #[v, .agg #[.int .i64 x, .int .i64 y]] w fun e w' => e = .returned (.bool true) ∧ Below w.heap.size w w' := by
  obtain ⟨a, cap, rfl, -⟩ := id hr
  have hb0 := (Below.refl w.heap.size w).alloc (Nat.le_refl _) (.cells #[.int .i64 x, .int .i64 y] 38)
  have hr0 := hr.kept hb0
  obtain ⟨c0, c1⟩ := zero2 w 38 (.int .i64 x) (.int .i64 y)
  have HM := Lib.hid hm
  have h0L := List.length_pos_of_mem hm
  have HST := Lib.hid (And.intro (And.intro c0 c1) (And.intro hr0 hb0))
  clear hr hr0 hb0 c0 c1 hm
  go_enter Tryz.func16, Tryz.ntmps16
  go_wp2_with fail
  go_loopw [5] (fun iv wr => ∃ i : Nat, i < ds.length ∧ iv = .int .i64 (i : Int) ∧ Hid (∀ j, j < i → ds.getD j (0, 0) ≠ (x, y)) ∧ Hid ((wr.cell? ⟨w.heap.size, 0, none⟩ = some (.int .i64 x) ∧ wr.cell? ⟨w.heap.size, 1, none⟩ = some (.int .i64 y)) ∧ ReadD wr (.slice a ds.length cap) ds ∧ Below w.heap.size w wr)) (fun iv _ => ds.length - (intOf iv).toNat)
  case atStart => exact ⟨0, h0L, rfl, Lib.hid (fun j h => by omega), HST⟩
  case round =>
    clear HST
    obtain ⟨i, hlt, rfl, HNO, HS⟩ := hrel
    obtain ⟨w9, hw9⟩ : ∃ w', w' = wr := ⟨_, rfl⟩
    rw [← hw9] at HS ⊢
    clear hw9
    obtain ⟨bm, om, rfl, h0, h1⟩ := readD_at HS.out.2.1 hlt
    obtain ⟨⟨c0, c1⟩, -, -⟩ := HS.out
    have HD := Lib.hid (And.intro (And.intro c0 c1) (And.intro (HS.out.2.1.kept (Below.refl _ _).drew) HS.out.2.2.drew))
    have z0 : (0 : Int) ≤ (i : Int) := by omega
    have z1 : (i : Int) < (ds.length : Int) := by omega
    by_cases he : ds.getD i (0, 0) = (x, y)
    · rw [he] at h0 h1
      have HQ := fun w' => eq_dep x y x y w'
      rw [show (x == x && y == y) = true from by simp] at HQ
      clear HNO he
      go_wp2_with fail
      go_region_law (go_simp)
      all_goals
        go_wp2_with fail
        go_ret
        exact ⟨rfl, HD.out.2.2⟩
    · have HN1 : Hid (i + 1 < ds.length) := Lib.hid (by
        obtain ⟨j, hj, e⟩ := List.getElem_of_mem HM.out
        have e' : ds.getD j (0, 0) = (x, y) := by rw [List.getD_eq_getElem?_getD, List.getElem?_eq_getElem hj]; exact e
        have h1 : ¬ j < i := fun h => HNO.out j h e'
        have h2 : j ≠ i := fun h => he (by rw [← h]; exact e')
        omega)
      have HNO' : Hid (∀ j, j < i + 1 → ds.getD j (0, 0) ≠ (x, y)) := Lib.hid (fun j hj e => by
        rcases Nat.lt_succ_iff_lt_or_eq.1 hj with h | h
        · exact HNO.out j h e
        · subst h; exact he e)
      obtain ⟨⟨x0, y0⟩, hxy⟩ : ∃ z, z = ds.getD i (0, 0) := ⟨_, rfl⟩
      have hq : (x0 == x && y0 == y) = false := by
        rw [← hxy] at he
        by_cases e1 : x0 = x
        · by_cases e2 : y0 = y
          · exact absurd (by rw [e1, e2]) he
          · simp [e2]
        · simp [e1]
      rw [← hxy] at h0 h1
      simp only at h0 h1
      have HQ := fun w' => eq_dep x0 y0 x y w'
      rw [hq] at HQ
      clear hxy he HNO hq
      go_wp2_with fail
      go_region_law (go_simp)
      all_goals
        go_wp2_with fail
        go_roundw
        case rel => exact ⟨i + 1, HN1.out, by go_num, HNO', HD⟩
        case measure => simp [intOf]; omega
theorem sameSet_mem (v v' : Value) (ds ds' : List (Int × Int)) (w : World) (hr : ReadD w v ds) (hr' : ReadD w v' ds') (hl : ds.length ≤ 1048576) (hm : ∀ d ∈ ds, d ∈ ds') (he : ds.length = ds'.length) :
    Calls Tryz.prog 18 #[v, v'] w fun e w' => e = .returned (.bool true) ∧ Below w.heap.size w w' := by
  have HH := Lib.hid (fun (i : Nat) (hi : i < ds.length) (x y : Int) (hx : ds.getD i (0, 0) = (x, y)) w' (hb : Below w.heap.size w w') => hasDep_mem v' ds' x y w' (hr'.kept hb) (by omega) (hm _ (by rw [← hx, List.getD_eq_getElem?_getD, List.getElem?_eq_getElem hi]; exact List.getElem_mem hi)))
  obtain ⟨a, cap, rfl, -⟩ := id hr
  obtain ⟨a', cap', rfl, -⟩ := id hr'
  have HR := Lib.hid (And.intro hr (Below.refl w.heap.size w))
  have HE := Lib.hid he
  clear hr hr' hm he
  go_enter Tryz.func18, Tryz.ntmps18
  go_wp2_with fail
  go_loopw [5] (fun iv wr => ∃ i : Nat, i ≤ ds.length ∧ iv = .int .i64 (i : Int) ∧ Hid (ReadD wr (.slice a ds.length cap) ds ∧ Below w.heap.size w wr)) (fun iv _ => ds.length - (intOf iv).toNat)
  case atStart => exact ⟨0, by omega, rfl, HR⟩
  case round =>
    clear HR
    obtain ⟨i, hi, rfl, HS⟩ := hrel
    obtain ⟨w9, hw9⟩ : ∃ w', w' = wr := ⟨_, rfl⟩
    rw [← hw9] at HS ⊢
    clear hw9
    have z0 : (0 : Int) ≤ (i : Int) := by omega
    by_cases hlt : i < ds.length
    · obtain ⟨bm, om, rfl, h0, h1⟩ := readD_at HS.out.1 hlt
      obtain ⟨⟨x0, y0⟩, hxy⟩ : ∃ z, z = ds.getD i (0, 0) := ⟨_, rfl⟩
      have HI := Lib.hid (HH.out i hlt x0 y0 hxy.symm)
      rw [← hxy] at h0 h1
      simp only at h0 h1
      have z1 : (i : Int) < (ds.length : Int) := by omega
      clear hxy HH
      go_wp2_with fail
      first
        | (refine (HI.out _ HS.out.2).mono ?_; rintro e w10 ⟨rfl, b10⟩)
        | (go_region_law (go_simp; go_at_call 16; refine (HI.out _ HS.out.2.drew).mono ?_; rintro e w10 ⟨rfl, b10⟩))
      all_goals
        have HS' : Hid (_ ∧ Below w.heap.size w w10) := Lib.hid (And.intro (HS.out.1.kept (show Below w9.heap.size w9 w10 from b10)) (HS.out.2.trans ((show Below w9.heap.size w9 w10 from b10).mono HS.out.2.size)))
        clear b10 h0 h1
        go_wp2_with fail
        go_roundw
        case rel => exact ⟨i + 1, by omega, by go_num, HS'⟩
        case measure => simp [intOf]; omega
    · obtain rfl : i = ds.length := by omega
      clear HH
      go_wp2_with fail
      go_ret
      exact ⟨by rw [HE.out]; simp, HS.out.2⟩
end
end Go.Proofs.YtjfllfancgmalaaGreat
namespace Go.Proofs.YtjfllfancgmalaaGreat
open Go.RowKit

/-- A search in readable memory. -/
def RS (c m at_ t : Int) (ll : List (List Int)) (F : List (Int × Int)) (w : World) (e : Ending) (w' : World) : Prop :=
  ∃ u g : Value, e = .returned (srcV c u m at_ g t) ∧ ReadSS w' u ll ∧ ReadD w' g F ∧ Below w.heap.size w w'
def RSB (c m at_ t : Int) (ll : List (List Int)) (F : List (Int × Int)) (b : Bool) (w : World) (e : Ending) (w' : World) : Prop :=
  ∃ u g : Value, e = .returned (.tuple #[srcV c u m at_ g t, .bool b]) ∧ ReadSS w' u ll ∧ ReadD w' g F ∧ Below w.heap.size w w'
def RB (b : Bool) (w : World) (e : Ending) (w' : World) : Prop := e = .returned (.bool b) ∧ Below w.heap.size w w'
theorem rs_of {c m at_ t : Int} {ll : List (List Int)} {F : List (Int × Int)} {w w' : World} {e : Ending} (h : RetSea c m at_ t ll F w e w') : RS c m at_ t ll F w e w' := by
  obtain ⟨u, g, C, h1, h2, h3, -, -, h6⟩ := h
  exact ⟨u, g, h1, h2.read, h3.read, h6⟩
theorem rs_of2 {c m at_ t : Int} {ll : List (List Int)} {F : List (Int × Int)} {w w' : World} {e : Ending} (h : RetSW c m at_ t ll F w e w') : RS c m at_ t ll F w e w' := by
  obtain ⟨u, g, h1, h2, h3, h6⟩ := h
  exact ⟨u, g, h1, h2.read, h3.read, h6⟩
theorem rsb_of {c m at_ t : Int} {ll : List (List Int)} {F : List (Int × Int)} {b : Bool} {w w' : World} {e : Ending} (h : RetSeaB c m at_ t ll F b w e w') : RSB c m at_ t ll F b w e w' := by
  obtain ⟨u, g, C, h1, h2, h3, -, -, h6⟩ := h
  exact ⟨u, g, h1, h2.read, h3.read, h6⟩
theorem rsb_of2 {c m at_ t : Int} {ll : List (List Int)} {F : List (Int × Int)} {b : Bool} {w w' : World} {e : Ending} (h : RetSWB c m at_ t ll F b w e w') : RSB c m at_ t ll F b w e w' := by
  obtain ⟨u, g, h1, h2, h3, h6⟩ := h
  exact ⟨u, g, h1, h2.read, h3.read, h6⟩
/-- A function of one search, and of two. -/
def On (f : FuncId) (c m at_ t : Int) (ll : List (List Int)) (F : List (Int × Int)) (R : World → Ending → World → Prop) : Prop :=
  ∀ (u g : Value) (x : World), ReadSS x u ll → ReadD x g F → Calls Tryz.prog f #[srcV c u m at_ g t] x (R x)
def OnB (f : FuncId) (c m at_ t b : Int) (ll : List (List Int)) (F : List (Int × Int)) (R : World → Ending → World → Prop) : Prop :=
  ∀ (u g : Value) (x : World), ReadSS x u ll → ReadD x g F → Calls Tryz.prog f #[srcV c u m at_ g t, .int .i64 b] x (R x)
def On2 (f : FuncId) (c m at_ t : Int) (ll : List (List Int)) (F : List (Int × Int)) : Prop :=
  ∀ (u u' g g' : Value) (x : World), ReadSS x u ll → ReadSS x u' ll → ReadD x g F → ReadD x g' F → Calls Tryz.prog f #[srcV c u m at_ g t, srcV c u' m at_ g' t] x (RB true x)
theorem eq_on (c m at_ t : Int) (ll : List (List Int)) (F : List (Int × Int)) (hl : ll.length ≤ 1048576) (ht : ∀ i, i < ll.length → (ll.getD i []).length ≤ 1048576) (hF : F.length ≤ 1048576) : On2 7 c m at_ t ll F :=
  fun u u' g g' x h1 h2 h3 h4 => by
    have h := equalSearches8_any c c m m at_ at_ t t u u' g g' ll ll F F x h1 h2 (by omega) (fun i hi => Nat.le_trans (ht i hi) (by decide)) h3 h4 hF
    rw [eqSea_self] at h
    exact h
/-- What holds of a valid search. -/
structure SP (c m t bud : Int) (ll : List (List Int)) (at_ : Int) (F : List (Int × Int)) (A1 T1 : Int) (F1 M : List (Int × Int)) (A3 T3 : Int) (F3 : List (Int × Int)) : Prop where
  ra : OnB 6 c m A1 T1 1000 ll F1 (RS c m A3 T3 ll F3)
  rb : OnB 6 c m at_ t 1000 ll F (RS c m A3 T3 ll F3)
  eq3 : On2 7 c m A3 T3 ll F3
  ed : On 17 c m A3 T3 ll F3 (RB true)
  is3 : On 9 c m A1 T1 ll F1 (RB true)
  ss : ∀ (g v : Value) (x : World), ReadD x g F3 → ReadD x v M → Calls Tryz.prog 18 #[g, v] x (RB true x)
  has : ∀ i, i < F1.length → ∀ (a b : Int), F1.getD i (0, 0) = (a, b) → ∀ (v : Value) (x : World), ReadD x v M → Calls Tryz.prog 16 #[v, .agg #[.int .i64 a, .int .i64 b]] x (RB true x)
  bd : 0 ≤ bud → ¬ bud < wrap64 (T1 - t)
/-- All that FnSearches asks. -/
structure LP (c m t bud : Int) (ll : List (List Int)) (at_ : Int) (F : List (Int × Int)) (A1 T1 : Int) (F1 M : List (Int × Int)) (A3 T3 : Int) (F3 : List (Int × Int)) (p : Bool) (A2 T2 : Int) (F2 : List (Int × Int)) (nb : Bool) (d1 d2 : Int) : Prop where
  run1 : OnB 6 c m at_ t bud ll F (RS c m A1 T1 ll F1)
  run2 : OnB 8 c m at_ t bud ll F (RS c m A1 T1 ll F1)
  eq1 : On2 7 c m A1 T1 ll F1
  is1 : On 9 c m at_ t ll F (RB p)
  is2 : On 10 c m at_ t ll F (RB p)
  st1 : On 11 c m at_ t ll F (RSB c m A2 T2 ll F2 nb)
  st2 : On 12 c m at_ t ll F (RSB c m A2 T2 ll F2 nb)
  eq2 : On2 7 c m A2 T2 ll F2
  ca1 : On 13 c m at_ t ll F (fun x e x' => e = .returned (.tuple #[.agg #[.int .i64 d1, .int .i64 d2], .bool nb]) ∧ Below x.heap.size x x')
  ca2 : On 14 c m at_ t ll F (fun x e x' => e = .returned (.tuple #[.agg #[.int .i64 d1, .int .i64 d2], .bool nb]) ∧ Below x.heap.size x x')
  md : ∀ (u : Value) (x : World), ReadSS x u ll → Calls Tryz.prog 15 #[.agg #[.int .i64 c, u], .int .i64 m] x (RetD M x)
  f1 : F1.length ≤ 1048576
  sp : p = true → SP c m t bud ll at_ F A1 T1 F1 M A3 T3 F3
theorem sp_of {c m at_ t bud : Int} {ll : List (List Int)} {F : List (Int × Int)} (hl : ll.length ≤ 1048576) (ht : ∀ i, i < ll.length → (ll.getD i []).length ≤ 1048576) (hF : F.length ≤ 200) (hs : isSB c ll m at_ F t = true) :
    SP c m t bud ll at_ F (rsA c ll m at_ F t bud) (rsT c ll m at_ F t bud) (rsF c ll m at_ F t bud) (mdL c ll m) (rsA c ll m at_ F t 1000) (rsT c ll m at_ F t 1000) (rsF c ll m at_ F t 1000) := by
  have hf1 := rsF_few c ll m at_ F t bud hF
  have hf3 := rsF_few c ll m at_ F t 1000 hF
  obtain ⟨C, K, n, rfl, rfl, rfl, hC1, hC5, hK, hN, hfi, hrep⟩ := isSB_all hs
  obtain ⟨k9, h9, a9, b9, c9, -, e9⟩ := rs_facts hfi hK hN hrep hs bud
  obtain ⟨k3, h3, a3, b3, c3, d3, -⟩ := rs_facts hfi hK hN hrep hs 1000
  have hs9 := isSB_rep (m := m) hfi h9
  obtain ⟨k5, h5, a5, b5, c5, d5, -⟩ := rs_facts hfi h9 hN (show repN C ll m k9 = ((repN C ll m k9).1, (repN C ll m k9).2) from rfl) hs9 1000
  have ek3 := d3 (by omega)
  have ek5 := d5 (by omega)
  subst ek3 ek5
  rw [b9] at hf1
  rw [b3] at hf3
  rw [a9, b9, c9, a3, b3, c3]
  have hn : n ≤ 160 := by
    have h := (repN_len C ll m K).2
    rw [hrep] at h
    exact Nat.le_trans h (by omega)
  have h9b : (repN C ll m k9).2 ≤ 160 := by have := (repN_len C ll m k9).2; omega
  have hml := mdL_len (C : Int) ll m
  have hmem : ∀ k, k ≤ C * 2 ^ C → ∀ i, i < (repN C ll m k).1.length → (repN C ll m k).1.getD i (0, 0) ∈ mdL (C : Int) ll m := fun k hk i hi => repN_md hfi hC1 hC5 hk _ (by rw [List.getD_eq_getElem?_getD, List.getElem?_eq_getElem hi]; exact List.getElem_mem hi)
  refine ⟨fun u g x h1 h2 => ?_, fun u g x h1 h2 => ?_, eq_on _ _ _ _ _ _ hl ht (by omega), fun u g x h1 h2 => ?_, fun u g x h1 h2 => ?_, fun g v x h1 h2 => ?_, fun i hi a b hab v x h1 => ?_, fun hb => ?_⟩
  · have h := implRunSearch_any (C : Int) m (k9 : Int) ((repN C ll m k9).2 : Int) 1000 u g ll _ x h1 hl ht h2 (by omega)
    rw [a5, b5, c5] at h
    exact h.mono fun e x' h => rs_of h
  · have h := implRunSearch_any (C : Int) m (K : Int) (n : Int) 1000 u g ll F x h1 hl ht h2 (by omega)
    rw [a3, b3, c3] at h
    exact h.mono fun e x' h => rs_of h
  · have h := implIsSearched_any (C : Int) m ((C * 2 ^ C : Nat) : Int) ((repN C ll m (C * 2 ^ C)).2 : Int) u g ll _ x h1 hl ht h2 (by omega)
    rw [edB_rep hfi] at h
    exact h
  · have h := implIsSearch_any (C : Int) m (k9 : Int) ((repN C ll m k9).2 : Int) u g ll _ x h1 hl ht h2 (by omega)
    rw [hs9] at h
    exact h
  · exact sameSet_mem g v _ _ x h1 h2 (by omega) (repN_md hfi hC1 hC5 (Nat.le_refl _)) (repN_all hfi hC1 hC5)
  · exact hasDep_mem v _ a b x h1 (by omega) (by rw [← hab]; exact hmem k9 h9 i hi)
  · have h := e9 hb
    unfold wrap64
    omega
theorem lp_of {c m at_ t bud : Int} {ll : List (List Int)} {F : List (Int × Int)} (hl : ll.length ≤ 1048576) (ht : ∀ i, i < ll.length → (ll.getD i []).length ≤ 1048576) (hF : F.length ≤ 200) :
    ∃ A1 T1 F1 M A3 T3 F3 p A2 T2 F2 nb d1 d2, LP c m t bud ll at_ F A1 T1 F1 M A3 T3 F3 p A2 T2 F2 nb d1 d2 :=
  ⟨rsA c ll m at_ F t bud, rsT c ll m at_ F t bud, rsF c ll m at_ F t bud, mdL c ll m, rsA c ll m at_ F t 1000, rsT c ll m at_ F t 1000, rsF c ll m at_ F t 1000, isSB c ll m at_ F t,
   ssA c ll m at_ F t, ssT c ll m at_ F t, ssF c ll m at_ F t, nxB c ll m at_ F t, (nxD c ll m at_ F t).1, (nxD c ll m at_ F t).2,
   { run1 := fun u g x h1 h2 => (implRunSearch_any c m at_ t bud u g ll F x h1 hl ht h2 (by omega)).mono fun e x' h => rs_of h
     run2 := fun u g x h1 h2 => (runSearch8_any c m at_ t bud u g ll F x h1 hl ht h2 (by omega)).mono fun e x' h => rs_of2 h
     eq1 := eq_on _ _ _ _ _ _ hl ht (Nat.le_trans (rsF_few c ll m at_ F t bud hF) (by omega))
     is1 := fun u g x h1 h2 => implIsSearch_any c m at_ t u g ll F x h1 hl ht h2 (by omega)
     is2 := fun u g x h1 h2 => isSearch8_any c m at_ t u g ll F x h1 hl ht h2 (by omega)
     st1 := fun u g x h1 h2 => (implStepSearch_any c m at_ t u g ll F x h1 hl ht h2 (by omega)).mono fun e x' h => rsb_of h
     st2 := fun u g x h1 h2 => (stepSearch8_any c m at_ t u g ll F x h1 hl ht h2 (by omega)).mono fun e x' h => rsb_of2 h
     eq2 := eq_on _ _ _ _ _ _ hl ht (ssF_len c ll m at_ F t (by omega))
     ca1 := fun u g x h1 h2 => implCandidateAt_any c m at_ t u g ll F x h1 hl ht h2 (by omega)
     ca2 := fun u g x h1 h2 => candidateAt8_any c m at_ t u g ll F x h1 hl ht h2 (by omega)
     md := fun u x h1 => minimalDeps_any c m u ll x h1 hl ht
     f1 := Nat.le_trans (rsF_few c ll m at_ F t bud hF) (by omega)
     sp := fun h => sp_of hl ht hF h }⟩
/-- What holds of the last two draws. -/
theorem ed_on {c m at_ t : Int} {ll : List (List Int)} {F : List (Int × Int)} (hl : ll.length ≤ 1048576) (ht : ∀ i, i < ll.length → (ll.getD i []).length ≤ 1048576) (hF : F.length ≤ 200) :
    ∃ b : Bool, On 17 c m at_ t ll F (RB b) ∧ On 23 c m at_ t ll F (RB b) :=
  ⟨_, fun u g x h1 h2 => implIsSearched_any c m at_ t u g ll F x h1 hl ht h2 (by omega), fun u g x h1 h2 => isSearched8_any c m at_ t u g ll F x h1 hl ht h2 (by omega)⟩
theorem ns_on {c m : Int} {ll : List (List Int)} (hl : ll.length ≤ 1048576) (ht : ∀ i, i < ll.length → (ll.getD i []).length ≤ 1048576) :
    ∃ (c' m' : Int) (ll' : List (List Int)) (b : Bool), (∀ (u : Value) (x : World), ReadSS x u ll → Calls Tryz.prog 21 #[.agg #[.int .i64 c, u], .int .i64 m] x (RSB c' m' 0 0 ll' [] b x)) ∧
      (∀ (u : Value) (x : World), ReadSS x u ll → Calls Tryz.prog 22 #[.agg #[.int .i64 c, u], .int .i64 m] x (RSB c' m' 0 0 ll' [] b x)) ∧ On2 7 c' m' 0 0 ll' [] := by
  refine ⟨_, _, _, _, fun u x h => (implNewSearch_any c m u ll x h hl ht).mono fun e x' h => rsb_of h, fun u x h => (newSearch8_any c m u ll x h hl ht).mono fun e x' h => rsb_of h, eq_on _ _ _ _ _ _ ?_ ?_ (Nat.zero_le _)⟩
  · unfold nsL; split
    · exact hl
    · exact Nat.zero_le _
  · unfold nsL; split
    · exact ht
    · exact fun i hi => absurd hi (Nat.not_lt_zero _)
end Go.Proofs.YtjfllfancgmalaaGreat
