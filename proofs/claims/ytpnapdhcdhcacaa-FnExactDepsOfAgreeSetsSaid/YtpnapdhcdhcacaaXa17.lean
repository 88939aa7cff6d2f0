/- Texts of this claim, merged: SpecT2, ClG, OwnDs, ClnA. Conditions: as stated. -/
import Derived.Test.YtpnapdhcdhcacaaXa2
import Derived.Test.YtpnapdhcdhcacaaClDm
import Derived.Test.YtpnapdhcdhcacaaXa13
import Derived.Laws.AppendOwnNone
import Derived.Lib.SliceRun
import Derived.Deep.AppendLies
namespace Go.Proofs.Ytpnapdhcdhcacaa
open Go.RowKit

/-- The cells of two boxed tables, later. -/
theorem box4 {w wr : World} {c c' : Int} {v v' : Value} {T : TypeId} (hb : Below ((w.alloc (.cells #[.int .i64 c, v] T)).alloc (.cells #[.int .i64 c', v'] T)).heap.size ((w.alloc (.cells #[.int .i64 c, v] T)).alloc (.cells #[.int .i64 c', v'] T)) wr) :
    (wr.cell? ⟨w.heap.size, 0, none⟩ = some (.int .i64 c) ∧ wr.cell? ⟨w.heap.size, 1, none⟩ = some v) ∧ wr.cell? ⟨w.heap.size + 1, 0, none⟩ = some (.int .i64 c') ∧ wr.cell? ⟨w.heap.size + 1, 1, none⟩ = some v' := by
  have h1 := box2 (w := w) ((Below.refl _ _).alloc (Nat.le_refl _) (.cells #[.int .i64 c', v'] T) |>.trans (hb.mono (by simp)))
  have h2 := box2 (w := w.alloc (.cells #[.int .i64 c, v] T)) hb
  exact ⟨h1, by simpa using h2⟩
/-- What is held of a region in which tables are loaded and copied: the cells of two boxes, and the second table's rows. -/
theorem keepT {w5 w6 w7 : World} {p q r t : Addr} {u0 u1 u2 u3 : Value} {vx : Value} {ll : List (List Int)} (h : (w6.cell? p = some u0 ∧ w6.cell? q = some u1) ∧ (w6.cell? r = some u2 ∧ w6.cell? t = some u3) ∧ ReadSS w6 vx ll ∧ Below w5.heap.size w5 w6) (hb : Below w6.heap.size w6 w7) :
    (w7.cell? p = some u0 ∧ w7.cell? q = some u1) ∧ (w7.cell? r = some u2 ∧ w7.cell? t = some u3) ∧ ReadSS w7 vx ll ∧ Below w5.heap.size w5 w7 := by
  have k : ∀ {a : Addr} {u : Value}, w6.cell? a = some u → w7.cell? a = some u := fun e => (hb.cell (World.block_lt_of_cell? w6 _ e)).trans e
  exact ⟨⟨k h.1.1, k h.1.2⟩, ⟨k h.2.1.1, k h.2.1.2⟩, h.2.2.1.kept hb, h.2.2.2.trans (hb.mono h.2.2.2.size)⟩
theorem keepQ {w5 w6 w7 : World} {p q r t : Addr} {u0 u1 u2 u3 : Value} (h : ((w6.cell? p = some u0 ∧ w6.cell? q = some u1) ∧ w6.cell? r = some u2 ∧ w6.cell? t = some u3) ∧ Below w5.heap.size w5 w6) (hb : Below w6.heap.size w6 w7) :
    ((w7.cell? p = some u0 ∧ w7.cell? q = some u1) ∧ w7.cell? r = some u2 ∧ w7.cell? t = some u3) ∧ Below w5.heap.size w5 w7 := by
  have k : ∀ {a : Addr} {u : Value}, w6.cell? a = some u → w7.cell? a = some u := fun e => (hb.cell (World.block_lt_of_cell? w6 _ e)).trans e
  exact ⟨⟨⟨k h.1.1.1, k h.1.1.2⟩, k h.1.2.1, k h.1.2.2⟩, h.2.trans (hb.mono h.2.size)⟩
end Go.Proofs.Ytpnapdhcdhcacaa
namespace Go.Proofs.Ytpnapdhcdhcacaa
open Go.RowKit

theorem brd_len (g : Nat → Bool) : ∀ n, (brdTo g n).length ≤ n
  | 0 => Nat.le_refl _
  | n + 1 => by
    have ih := brd_len g n
    have h : brdTo g (n + 1) = if g n = true then brdTo g n ++ [(n : Int)] else brdTo g n := rfl
    rw [h]
    split
    · rw [List.length_append]; simp; omega
    · omega
theorem clsL_len (n : Int) (l : List (Int × Int)) : (clsL n l).length ≤ 32 := by
  unfold clsL
  split
  · rename_i h
    obtain ⟨C, rfl, -, hC, -⟩ := arD_n h
    exact Nat.le_trans (brd_len _ _) (two5 hC)
  · exact Nat.zero_le _
section
set_option maxRecDepth 20000
set_option maxHeartbeats 3200000
theorem closedSets10_any (v : Value) (n : Int) (l : List (Int × Int)) (w : World) (hr : ReadD w v l) (hl : l.length ≤ 1048576) :
    Calls Try.prog 30 #[.int .i64 n, v] w (RetI (clsL n l) w) := by
  obtain ⟨i0, hi, hz0, hz1, hz2⟩ := info_parts info3i
  have HI : Hid (_ ∧ _ ∧ _ ∧ _) := Lib.hid ⟨hi, hz0, hz1, hz2⟩
  clear hi hz0 hz1 hz2
  have HAD := Lib.hid (fun w' (hb : Below w.heap.size w w') => areDeps10_any v n l w' (hr.kept hb) hl)
  have ho0 : OwnI (w.alloc (.cells #[] 3)) w.heap.size (.slice (some ⟨w.heap.size, 0, none⟩) 0 0) [] := OwnI.made (World.ownsRow_made w #[] 0 (Nat.le_refl _) (by unfold maxLen; omega) rfl)
  have hb0 := (Below.refl w.heap.size w).alloc (Nat.le_refl _) (.cells #[] 3)
  cases ha : arD n l with
  | false =>
    rw [ha] at HAD
    have HE : Hid (clsL n l = []) := Lib.hid (by unfold clsL; rw [ha]; rfl)
    obtain ⟨a, cap, rfl, -⟩ := hr
    clear ha
    go_enter Try.func30, Try.ntmps30
    go_wp2_with fail
    go_loopw [5, 6] (fun ov xv wr => ov = .slice (some ⟨w.heap.size, 0, none⟩) 0 0 ∧ xv = .int .i64 0 ∧ wr = w.alloc (.cells #[] 3)) (fun _ _ _ => 0)
    case atStart => exact ⟨rfl, rfl, rfl⟩
    case round =>
      obtain ⟨rfl, rfl, rfl⟩ := hrel
      have HO := Lib.hid ho0
      have HB := Lib.hid hb0
      have HQ := Lib.hid (HAD.out _ hb0)
      clear ho0 hb0
      go_wp2_with fail
      refine HQ.out.mono ?_
      rintro e w2 ⟨rfl, b2⟩
      have HO2 := Lib.hid (HO.out.kept b2 (fun k hk => (OwnI.lt HO.out k hk).2))
      have HB2 := Lib.hid (HB.out.trans (b2.mono HB.out.size))
      clear b2
      go_wp2_with fail
      go_ret
      exact ⟨_, rfl, by rw [HE.out]; exact HO2.out, HB2.out⟩
  | true =>
    rw [ha] at HAD
    obtain ⟨C, rfl, hC1, hC5, -, hd⟩ := arD_n ha
    have HE : Hid (clsL (C : Int) l = brdTo (clB l) (2 ^ C)) := Lib.hid (by unfold clsL; rw [ha]; rfl)
    have HC := Lib.hid (fun (x : Nat) (hx : x < 32) w' (hb : Below w.heap.size w w') => close10_any C hC5 v l hd x hx w' (hr.kept hb) hl)
    have HCL := Lib.hid (fun (x : Nat) (hx : x < 32) => clo_cl hC5 hd hx)
    have HBS : Hid (∀ x : Nat, brdTo (clB l) (x + 1) = if clB l x = true then brdTo (clB l) x ++ [(x : Int)] else brdTo (clB l) x) := Lib.hid (fun _ => rfl)
    have HBL := Lib.hid (brd_len (clB l))
    obtain ⟨M, hM, hM31, hMZ⟩ : ∃ M : Nat, M + 1 = 2 ^ C ∧ M ≤ 31 ∧ ((2 : Int) ^ C - 1) = (M : Int) := by
      have h32 := two5 hC5
      have hp : 0 < 2 ^ C := Nat.pow_pos (by omega)
      have hz : ((2 ^ C : Nat) : Int) = (2 : Int) ^ C := by rw [Int.natCast_pow]; rfl
      exact ⟨2 ^ C - 1, by omega, by omega, by omega⟩
    have HAL : Hid (∀ w', Calls Try.prog 31 #[.int .i64 (C : Int)] w' fun e w'' => e = .returned (.int .i64 (M : Int)) ∧ w' = w'') := Lib.hid (fun w' => by have h := all_any (C : Int) w' (by omega) (by omega); rw [show ((C : Int)).toNat = C from rfl, hMZ] at h; exact h)
    rw [← hM] at HE
    have HO := Lib.hid ho0
    have HB := Lib.hid hb0
    obtain ⟨a, cap, rfl, -⟩ := hr
    clear ha hd ho0 hb0 hM hMZ
    go_enter Try.func30, Try.ntmps30
    go_wp2_with fail
    go_loopw [5, 6] (fun ov xv wr => ∃ x : Nat, x ≤ M + 1 ∧ xv = .int .i64 (x : Int) ∧ Hid (OwnI wr w.heap.size ov (brdTo (clB l) x)) ∧ Hid (Below w.heap.size w wr)) (fun _ xv _ => M + 1 - (intOf xv).toNat)
    case atStart => exact ⟨0, by omega, rfl, HO, HB⟩
    case round =>
      clear HO HB
      obtain ⟨x, hx, rfl, HO, HB⟩ := hrel
      obtain ⟨w3, hw⟩ : ∃ w', w' = wr := ⟨_, rfl⟩
      rw [← hw] at HO HB ⊢
      clear hw
      have HQ := Lib.hid (HAD.out _ HB.out)
      have hql := HBL.out x
      have hbs := HBS.out x
      obtain ⟨q, hq⟩ : ∃ q, q = brdTo (clB l) x := ⟨_, rfl⟩
      rw [← hq] at HO hql hbs
      have z0 : (0 : Int) ≤ (x : Int) := by omega
      by_cases hlt : x ≤ M
      · have z1 : (x : Int) ≤ (M : Int) := by omega
        have hcl := HCL.out x (by omega)
        have HCX := Lib.hid (HC.out x (by omega))
        obtain ⟨y, hy⟩ : ∃ y, y = clo l x := ⟨_, rfl⟩
        rw [← hy] at hcl HCX
        have hyz : ((y : Int) == (x : Int)) = (y == x) := by rw [Bool.eq_iff_iff, beq_iff_eq, beq_iff_eq]; omega
        rw [hcl] at hyz
        have HBSX := Lib.hid hbs
        clear hq hy hcl hbs
        go_wp2_with fail
        refine HQ.out.mono ?_
        rintro e w4 ⟨rfl, b4⟩
        have HO4 := Lib.hid (HO.out.kept b4 (fun k hk => (OwnI.lt HO.out k hk).2))
        have HB4 := Lib.hid (HB.out.trans (b4.mono HB.out.size))
        clear b4
        go_wp2_with fail
        refine (HAL.out _).mono ?_
        rintro e w' ⟨rfl, rfl⟩
        go_wp2_with fail
        refine (HCX.out _ HB4.out).mono ?_
        rintro e w5 ⟨rfl, b5⟩
        have HO5 := Lib.hid (HO4.out.kept b5 (fun k hk => (OwnI.lt HO4.out k hk).2))
        have HB5 := Lib.hid (HB4.out.trans (b5.mono HB4.out.size))
        clear b5
        cases hc : clB l x with
        | true =>
          rw [hc] at hyz HBSX
          have ho6 := HO5.out
          clear hc
          go_wp2_with (at_builtin; refine wpList_append_own _ rfl _ _ 47 rfl w.heap.size 3 i0 (.int .i64 0) 1 8 Try.underlying47 HI.out.1 HI.out.2.1 HI.out.2.2.1 HI.out.2.2.2 rfl (by decide) _ _ _ rfl (World.ownsRow.alloc ho6 _) ⟨w5.heap.size, 0, none⟩ 1 1 [.int .i64 (x : Int)] rfl rfl (cell_one_new _ _ _) (one_i64 _) (by unfold maxLen; omega) (by omega) (by have := HB5.out.size; simp; omega) ?_; intro v7 w7 hown7 hgrow7 _; have HO7 := Lib.hid (OwnI.snoc hown7); have HB7 := Lib.hid ((HB5.out.alloc HB5.out.size (.cells #[.int .i64 (x : Int)] 3)).grown hgrow7 (by rw [World.size_alloc]; have := HB5.out.size; omega) (fun k hk => (OwnI.lt HO5.out k hk).1)); clear hown7 hgrow7 ho6)
          go_roundw
          case rel => exact ⟨x + 1, by omega, by go_num, by rw [HBSX.out, if_pos (by first | trivial | rfl)]; exact HO7, HB7⟩
          case measure => simp [intOf]; omega
        | false =>
          rw [hc] at hyz HBSX
          clear hc
          go_wp2_with fail
          go_roundw
          case rel => exact ⟨x + 1, by omega, by go_num, by rw [HBSX.out, if_neg (by decide)]; exact HO5, HB5⟩
          case measure => simp [intOf]; omega
      · obtain rfl : x = M + 1 := by omega
        rw [hq] at HO
        have zM : ¬ (((M + 1 : Nat) : Int) ≤ (M : Int)) := by omega
        clear hq hql hbs
        go_wp2_with fail
        refine HQ.out.mono ?_
        rintro e w4 ⟨rfl, b4⟩
        have HO4 := Lib.hid (HO.out.kept b4 (fun k hk => (OwnI.lt HO.out k hk).2))
        have HB4 := Lib.hid (HB.out.trans (b4.mono HB.out.size))
        clear b4
        go_wp2_with fail
        refine (HAL.out _).mono ?_
        rintro e w' ⟨rfl, rfl⟩
        go_wp2_with fail
        go_ret
        exact ⟨_, rfl, by rw [HE.out]; exact HO4.out, HB4.out⟩
end
end Go.Proofs.Ytpnapdhcdhcacaa
namespace Go.Proofs.Ytpnapdhcdhcacaa
open Go.RowKit

theorem depsV_append (a b : List (Int × Int)) : depsV (a ++ b) = depsV a ++ depsV b := by
  induction a with
  | nil => rfl
  | cons x t ih => simp [depsV, ih]
theorem cell_two_new (w : World) (x y : Value) (t : TypeId) : ∀ j u, [x, y][j]? = some u → (w.alloc (.cells #[x, y] t)).cell? ((⟨w.heap.size, 0, none⟩ : Addr).add j) = some u := by
  intro j u hj
  match j, hj with
  | 0, hj =>
    simp at hj
    subst hj
    simp [Addr.add]
  | 1, hj =>
    simp at hj
    subst hj
    simp [Addr.add]
theorem two_i64 (x y : Int) : ∀ u ∈ [Value.int .i64 x, Value.int .i64 y], u.oneCell' = true := by
  intro u hu
  simp at hu
  rcases hu with rfl | rfl <;> rfl
theorem OwnD.nil (w : World) (B : Nat) : OwnD w B (.slice .none 0 0) [] := World.ownsRow_nil _ _ _ _
theorem OwnD.snoc {w : World} {B : Nat} {v : Value} {ds : List (Int × Int)} {x y : Int} (h : w.ownsRow B 39 2 v (ds.length + 1) (depsV ds ++ [.int .i64 x, .int .i64 y])) : OwnD w B v (ds ++ [(x, y)]) := by
  unfold OwnD
  rw [List.length_append, List.length_singleton, depsV_append]; exact h
theorem OwnD.base {w : World} {B B' : Nat} {v : Value} {ds : List (Int × Int)} (h : OwnD w B v ds) (hB : B' ≤ B) : OwnD w B' v ds := by
  refine ⟨h.1, ?_⟩
  rcases h.2 with hn | ⟨g, cap, cur, rfl, hb, rest⟩
  · exact .inl hn
  · exact .inr ⟨g, cap, cur, rfl, by omega, rest⟩
theorem OwnD.shape {w : World} {B : Nat} {v : Value} {ds : List (Int × Int)} (h : OwnD w B v ds) : ∃ a c, v = .slice a ds.length c := by
  rcases h.2 with ⟨rfl, h0⟩ | ⟨g, cap, cur, rfl, -⟩
  · exact ⟨_, _, by rw [h0]⟩
  · exact ⟨_, _, rfl⟩
/-- Blocks of rows of dependencies and blocks of rows of ints differ. -/
theorem dep_apart {w : World} {B B' : Nat} {v v' : Value} {n : Nat} {xs : List Value} {l : List Int} (h : w.ownsRow B 39 2 v n xs) (h' : OwnI w B' v' l) : ∀ g, v.ownBlock = some g → v'.ownBlock ≠ some g := by
  intro g hg hg'
  rcases h.2 with ⟨rfl, _⟩ | ⟨g1, cap, cur, rfl, hB, hgg, rest⟩
  · cases hg
  · rcases h'.2 with ⟨rfl, _⟩ | ⟨g2, cap2, cur2, rfl, hB2, hgg2, rest2⟩
    · cases hg'
    · simp [Value.ownBlock] at hg hg'
      subst hg hg'
      rw [hgg] at hgg2
      simp at hgg2
theorem one_at (w : World) (T : TypeId) (a : Value) : (w.alloc (.cells #[a] T)).cell? ⟨w.heap.size, 0, none⟩ = some a := World.cell?_alloc_mark w #[a] T (0, 0) 0
/-- A cell of a block that no row from B on holds is as it was, when a row grew. -/
theorem kept_cell {w w' : World} {row : Option Nat} {B : Nat} {p : Addr} (hg : w.grownBy w' row) (hB : ∀ g, row = some g → B < g) (hp : p.block < w.heap.size) (hlt : p.block ≤ B) : w'.cell? p = w.cell? p :=
  World.cell?_of_block (hg.block p.block hp (fun e => by have := hB p.block e.symm; omega))
end Go.Proofs.Ytpnapdhcdhcacaa
namespace Go.Proofs.Ytpnapdhcdhcacaa
open Go.RowKit

section
variable {P : Program} {w : World}
theorem run_append_all (base : Nat) (t ty e : TypeId) (i : TypeInfo) (z : Value) (size bytes : Nat) (ht : P.underlying t = some (.slice e)) (hi : P.info? e = some i) (hz : i.zero = some z)
    (hsize : i.size = size) (hby : i.bytes = bytes) (hzs : z.cells.size = size) (hsz : 0 < size)
    (v : Value) (n : Nat) (xs : List Value) (hown : w.ownsRow base e size v n xs)
    (a : Option Addr) (m c : Nat) (news : List Value) (hl : news.length = m * size) (hnews : ∀ j u, news[j]? = some u → ∃ x, a = some x ∧ w.cell? (x.add j) = some u) (h1 : ∀ u ∈ news, u.oneCell' = true)
    (h63 : n + m ≤ maxLen) (hbytes : (n + m) * bytes ≤ 140737488355328) (hbase : base ≤ w.heap.size) :
    ∃ v' w', (Builtin.append_ #[t, t] ty #[v, .slice a m c]).run P w = .ok v' w' ∧ w'.ownsRow base e size v' (n + m) (xs ++ news) ∧ w.grownBy w' v.ownBlock := by
  cases a with
  | some x =>
    obtain ⟨v', w', h2, h3, h4, -⟩ := run_append_own_at (P := P) w base t ty e i z size bytes ht hi hz hsize hby hzs hsz v n xs hown x m c news hl (fun j u hu => by
      obtain ⟨y, hy, hc⟩ := hnews j u hu
      cases hy
      exact hc) h1 h63 hbytes hbase
    exact ⟨v', w', h2, h3, h4⟩
  | none =>
    have hn : news = [] := by
      cases news with
      | nil => rfl
      | cons u us =>
        obtain ⟨y, hy, -⟩ := hnews 0 u rfl
        cases hy
    subst hn
    have hm : m = 0 := by
      rcases Nat.eq_zero_or_pos m with h | h
      · exact h
      · exfalso
        have := Nat.mul_pos h hsz
        rw [← hl] at this
        exact Nat.lt_irrefl 0 this
    subst hm
    refine ⟨v, w, ?_, by rw [Nat.add_zero, List.append_nil]; exact hown, ⟨rfl, rfl, rfl, Nat.le_refl _, fun _ _ _ => rfl⟩⟩
    rcases hown.2 with ⟨rfl, rfl⟩ | ⟨g, cap, cur, rfl, _, _, hnc, _⟩
    · simp [Builtin.append_, run_underlying ht, sizeOf, typeInfo, hi, Builtin.lenOf, Builtin.firstCells]
    · simp [Builtin.append_, run_underlying ht, sizeOf, typeInfo, hi, Builtin.lenOf, Builtin.firstCells, hnc, storeCells]
theorem wp_append_all {o : Oper} {a : Act} {K : Act → World → Prop} {Q : Exit → Act → World → Prop} (s x : Operand) (t : TypeId)
    (ho : o.op = .call { callee := .builtin .append, args := #[s, x], argTypes := #[t, t] })
    (base : Nat) (e : TypeId) (i : TypeInfo) (z : Value) (size bytes : Nat) (ht : P.underlying t = some (.slice e)) (hi : P.info? e = some i) (hz : i.zero = some z)
    (hsize : i.size = size) (hby : i.bytes = bytes) (hzs : z.cells.size = size) (hsz : 0 < size)
    (v : Value) (n : Nat) (xs : List Value) (hs : a.eval s = v) (hown : w.ownsRow base e size v n xs)
    (ad : Option Addr) (m c : Nat) (news : List Value) (hx : a.eval x = .slice ad m c) (hl : news.length = m * size) (hnews : ∀ j u, news[j]? = some u → ∃ x, ad = some x ∧ w.cell? (x.add j) = some u) (h1 : ∀ u ∈ news, u.oneCell' = true)
    (h63 : n + m ≤ maxLen) (hbytes : (n + m) * bytes ≤ 140737488355328) (hbase : base ≤ w.heap.size)
    (h : ∀ v' w', w'.ownsRow base e size v' (n + m) (xs ++ news) → w.grownBy w' v.ownBlock → K (a.put o.dst v') w') : o.wp P a w K Q := by
  obtain ⟨v', w', hr, h2, h3⟩ := run_append_all (P := P) (w := w) base t o.type e i z size bytes ht hi hz hsize hby hzs hsz v n xs hown ad m c news hl hnews h1 h63 hbytes hbase
  unfold Oper.wp execOp
  simp only [ho, resolve, invoke, builtin, Sem.run_bind, Sem.run_pure, Result.andThen_ok, List.map_toArray, List.map_cons, List.map_nil, hs, hx, hr]
  exact h v' w' h2 h3
theorem wpList_append_all {ops : Array Oper} {rest : List Oper} {o : Oper} {a : Act} {Q : Exit → Act → World → Prop} (hgd : o.guard = none) (s x : Operand) (t : TypeId)
    (ho : o.op = .call { callee := .builtin .append, args := #[s, x], argTypes := #[t, t] })
    (base : Nat) (e : TypeId) (i : TypeInfo) (z : Value) (size bytes : Nat) (ht : P.underlying t = some (.slice e)) (hi : P.info? e = some i) (hz : i.zero = some z)
    (hsize : i.size = size) (hby : i.bytes = bytes) (hzs : z.cells.size = size) (hsz : 0 < size)
    (v : Value) (n : Nat) (xs : List Value) (hs : a.eval s = v) (hown : w.ownsRow base e size v n xs)
    (ad : Option Addr) (m c : Nat) (news : List Value) (hx : a.eval x = .slice ad m c) (hl : news.length = m * size) (hnews : ∀ j u, news[j]? = some u → ∃ x, ad = some x ∧ w.cell? (x.add j) = some u) (h1 : ∀ u ∈ news, u.oneCell' = true)
    (h63 : n + m ≤ maxLen) (hbytes : (n + m) * bytes ≤ 140737488355328) (hbase : base ≤ w.heap.size)
    (h : ∀ v' w', w'.ownsRow base e size v' (n + m) (xs ++ news) → w.grownBy w' v.ownBlock → wpList P ops Q rest (a.put o.dst v') w') : wpList P ops Q (o :: rest) a w :=
  wpList_plain hgd fun _ hK => wp_append_all s x t ho base e i z size bytes ht hi hz hsize hby hzs hsz v n xs hs hown ad m c news hx hl hnews h1 h63 hbytes hbase fun v' w' h2 h3 => hK _ _ (h v' w' h2 h3)
theorem step_append_all {ops : Array Oper} {o : Oper} {a : Act} {K : Act → World → Prop} {Q : Exit → Act → World → Prop} {E : Prop} (hgd : o.guard = none) (s x : Operand) (t : TypeId)
    (ho : o.op = .call { callee := .builtin .append, args := #[s, x], argTypes := #[t, t] })
    (base : Nat) (e : TypeId) (i : TypeInfo) (z : Value) (size bytes : Nat) (ht : P.underlying t = some (.slice e)) (hi : P.info? e = some i) (hz : i.zero = some z)
    (hsize : i.size = size) (hby : i.bytes = bytes) (hzs : z.cells.size = size) (hsz : 0 < size)
    (v : Value) (n : Nat) (xs : List Value) (hs : a.eval s = v) (hown : w.ownsRow base e size v n xs)
    (ad : Option Addr) (m c : Nat) (news : List Value) (hx : a.eval x = .slice ad m c) (hl : news.length = m * size) (hnews : ∀ j u, news[j]? = some u → ∃ x, ad = some x ∧ w.cell? (x.add j) = some u) (h1 : ∀ u ∈ news, u.oneCell' = true)
    (h63 : n + m ≤ maxLen) (hbytes : (n + m) * bytes ≤ 140737488355328) (hbase : base ≤ w.heap.size)
    (h : ∀ v' w', w'.ownsRow base e size v' (n + m) (xs ++ news) → w.grownBy w' v.ownBlock → K (a.put o.dst v') w') :
    if Region.wanted o (yielded ops a.tmps) = true then Oper.wp P o a w K Q else E := by
  have hw : Region.wanted o (yielded ops a.tmps) = true := by simp [Region.wanted, hgd]
  rw [if_pos hw]
  exact wp_append_all s x t ho base e i z size bytes ht hi hz hsize hby hzs hsz v n xs hs hown ad m c news hx hl hnews h1 h63 hbytes hbase h
end
theorem intsV_each (l : List Int) : ∀ u ∈ intsV l, u.oneCell' = true := by intro u hu; unfold intsV at hu; rw [List.mem_map] at hu; obtain ⟨x, -, rfl⟩ := hu; rfl
/-- The cells that a whole slice brings. -/
theorem newsI {w : World} {a : Option Addr} {c : Nat} {l : List Int} (h : ReadI w (.slice a l.length c) l) : ∀ j u, (intsV l)[j]? = some u → ∃ x, a = some x ∧ w.cell? (x.add j) = some u := by
  intro j u hu
  have hj : j < l.length := by
    have := (List.getElem?_eq_some_iff.1 hu).1
    rwa [intsV_length] at this
  rw [intsV_get l j hj] at hu
  obtain ⟨a', cap, hv, hc⟩ := h
  cases hv
  obtain ⟨x, hx, hcell⟩ := hc j hj
  exact ⟨x, hx, by rw [hcell, ← hu]⟩
theorem depsV_one (l : List (Int × Int)) : ∀ u ∈ depsV l, u.oneCell' = true := by
  induction l with
  | nil => intro u hu; cases hu
  | cons d l ih =>
    intro u hu
    unfold depsV at hu
    rcases List.mem_cons.1 hu with rfl | hu
    · rfl
    · rcases List.mem_cons.1 hu with rfl | hu
      · rfl
      · exact ih u hu
theorem cell_inB {w w' : World} {p : Addr} {v : Value} (h : w.cell? p = some v) (b : Below w.heap.size w w') : w'.cell? p = some v := (b.cell (World.block_lt_of_cell? w _ h)).trans h
theorem add_off (b o j : Nat) : (⟨b, o, none⟩ : Addr).add j = ⟨b, o + j, none⟩ := by unfold Addr.add; split <;> simp_all
theorem newsD {w : World} {a : Option Addr} {c : Nat} {l : List (Int × Int)} (h : ReadD w (.slice a l.length c) l) : ∀ j u, (depsV l)[j]? = some u → ∃ x, a = some x ∧ w.cell? (x.add j) = some u := by
  intro j u hu
  have hj : j < l.length * 2 := by
    have := (List.getElem?_eq_some_iff.1 hu).1
    rwa [depsV_len] at this
  obtain ⟨a', cap, hv, hc⟩ := h
  cases hv
  have hi : j / 2 < l.length := by omega
  obtain ⟨b, o, ha, h0, h1⟩ := hc (j / 2) hi
  obtain ⟨g0, g1⟩ := depsV_get l (j / 2) hi
  refine ⟨⟨b, o, none⟩, ha, ?_⟩
  rw [add_off]
  rcases Nat.mod_two_eq_zero_or_one j with hm | hm
  · have e : j / 2 * 2 = j := by omega
    rw [e] at h0 g0
    rw [h0, ← hu, g0]
  · have e : j / 2 * 2 + 1 = j := by omega
    have e2 : o + j / 2 * 2 + 1 = o + j := by omega
    rw [e2] at h1
    rw [e] at g1
    rw [h1, ← hu, g1]
/-- The value of a row of a slice of rows. -/
def rowV (w : World) (a : Option Addr) (i : Nat) : Value := match a with | some x => (w.cell? (x.add i)).getD (.slice none 0 0) | none => .slice none 0 0
theorem rowV_at {w : World} {v : Value} {ll : List (List Int)} (h : ReadSS w v ll) : ∃ a c, v = .slice a ll.length c ∧ ∀ i, i < ll.length → ReadI w (rowV w a i) (ll.getD i []) ∧ ∃ x, a = some x ∧ w.cell? (x.add i) = some (rowV w a i) := by
  obtain ⟨a, c, hv, hc⟩ := h
  refine ⟨a, c, hv, fun i hi => ?_⟩
  obtain ⟨x, u, rfl, hx, hr⟩ := hc i hi
  have e : rowV w (some x) i = u := by simp only [rowV, hx]; rfl
  rw [e]
  exact ⟨hr, x, rfl, hx⟩
theorem newsR {w : World} {a : Option Addr} {n : Nat} (h : ∀ i, i < n → ∃ x, a = some x ∧ w.cell? (x.add i) = some (rowV w a i)) : ∀ j u, ((List.range n).map (rowV w a))[j]? = some u → ∃ x, a = some x ∧ w.cell? (x.add j) = some u := by
  intro j u hu
  have hj : j < n := by simpa using (List.getElem?_eq_some_iff.1 hu).1
  obtain ⟨x, hx, hc⟩ := h j hj
  rw [List.getElem?_map, List.getElem?_range hj] at hu
  simp only [Option.map_some, Option.some.injEq] at hu
  exact ⟨x, hx, by rw [hc, hu]⟩
theorem rowV_one {w : World} {a : Option Addr} {n : Nat} {ll : List (List Int)} (h : ∀ i, i < n → ReadI w (rowV w a i) (ll.getD i [])) : ∀ u ∈ (List.range n).map (rowV w a), u.oneCell' = true := by
  intro u hu
  rw [List.mem_map] at hu
  obtain ⟨i, hi, rfl⟩ := hu
  obtain ⟨b, c, e, -⟩ := h i (List.mem_range.1 hi)
  rw [e]
  rfl
/-- A new row of the call's own without cells. -/
theorem own_made (w : World) (B : Nat) (T : TypeId) (n : Nat) (hB : B ≤ w.heap.size) : (w.alloc (.cells #[] T)).ownsRow B T n (.slice (some ⟨w.heap.size, 0, none⟩) 0 0) 0 [] := World.ownsRow_made w #[] 0 hB (by unfold maxLen; omega) (by simp)
end Go.Proofs.Ytpnapdhcdhcacaa
