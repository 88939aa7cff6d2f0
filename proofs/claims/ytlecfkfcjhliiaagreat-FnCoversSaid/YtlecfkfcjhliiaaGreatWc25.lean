/- Texts of this claim, merged: DepD. Conditions: as stated. -/
import Derived.Test.YtlecfkfcjhliiaaGreatWc23
import Derived.Test.YtlecfkfcjhliiaaGreatWc22
import Derived.Deep.RegionHeld3
namespace Go.Proofs.YtlecfkfcjhliiaaGreat
open Go.RowKit

/-- Two rows are equal on the right. -/
def eqR (c : Nat) (ll : List (List Int)) (m : Int) (R : Nat) (a b : Int) : Bool := bitB (agrTo m (ll.getD a.toNat []) (ll.getD b.toNat []) c).toNat R
/-- How many of the first n rows of a class are equal to its row k on the right, k itself counted at the start. -/
def sameTo (c : Nat) (ll : List (List Int)) (m : Int) (R : Nat) (p : List Int) (k : Nat) : Nat → Nat
  | 0 => 1
  | j + 1 => if j ≠ k ∧ eqR c ll m R (p.getD k 0) (p.getD j 0) = true then sameTo c ll m R p k j + 1 else sameTo c ll m R p k j
def mostTo (c : Nat) (ll : List (List Int)) (m : Int) (R : Nat) (p : List Int) : Nat → Nat
  | 0 => 0
  | k + 1 => max (mostTo c ll m R p k) (sameTo c ll m R p k p.length)
def remTo (c : Nat) (ll : List (List Int)) (m : Int) (R : Nat) (P : List (List Int)) : Nat → Int
  | 0 => 0
  | i + 1 => remTo c ll m R P i + (P.getD i []).length - mostTo c ll m R (P.getD i []) (P.getD i []).length
def remD (c : Int) (ll : List (List Int)) (m l r : Int) : Int := if okD c ll m l r = true then remTo c.toNat ll m r.toNat (clSt c.toNat ll m l ll.length).1 (clSt c.toNat ll m l ll.length).1.length else -1
theorem sameTo_le (c : Nat) (ll : List (List Int)) (m : Int) (R : Nat) (p : List Int) (k : Nat) : ∀ j, 1 ≤ sameTo c ll m R p k j ∧ sameTo c ll m R p k j ≤ j + 1
  | 0 => ⟨Nat.le_refl _, Nat.le_refl _⟩
  | j + 1 => by
    have := sameTo_le c ll m R p k j
    unfold sameTo
    split <;> omega
theorem mostTo_le (c : Nat) (ll : List (List Int)) (m : Int) (R : Nat) (p : List Int) : ∀ k, mostTo c ll m R p k ≤ p.length + 1
  | 0 => by unfold mostTo; omega
  | k + 1 => by
    have := mostTo_le c ll m R p k
    have := (sameTo_le c ll m R p k p.length).2
    unfold mostTo
    omega
theorem remTo_bd (c : Nat) (ll : List (List Int)) (m : Int) (R : Nat) (P : List (List Int)) : ∀ i, i ≤ P.length → -(i : Int) ≤ remTo c ll m R P i ∧ remTo c ll m R P i ≤ tot (P.take i)
  | 0, _ => by simp [remTo, tot]
  | i + 1, hi => by
    have h := remTo_bd c ll m R P i (by omega)
    have h2 := mostTo_le c ll m R (P.getD i []) (P.getD i []).length
    have h3 := tot_succ (ll := P) (k := i) (by omega)
    unfold remTo
    omega
theorem clSt_cls (c : Nat) (ll : List (List Int)) (m s : Int) : ∀ i, i ≤ ll.length → ∀ C ∈ (clSt c ll m s i).1, ∃ a, a < i ∧ C = clsC c ll m s a
  | 0, _ => by simp [clSt]
  | i + 1, hi => by
    have ih := clSt_cls c ll m s i (by omega)
    intro C hC
    unfold clSt at hC
    split at hC
    · obtain ⟨a, h1, h2⟩ := ih C hC; exact ⟨a, by omega, h2⟩
    · split at hC
      · rcases List.mem_append.1 hC with h | h
        · obtain ⟨a, h1, h2⟩ := ih C h; exact ⟨a, by omega, h2⟩
        · exact ⟨i, by omega, by simpa using h⟩
      · obtain ⟨a, h1, h2⟩ := ih C hC; exact ⟨a, by omega, h2⟩
/-- The rows of the classes are rows of the table. -/
theorem clSt_rows {c : Nat} {ll : List (List Int)} {m s : Int} {i k : Nat} (hi : i < (clSt c ll m s ll.length).1.length) (hk : k < ((clSt c ll m s ll.length).1.getD i []).length) : ∃ q : Nat, ((clSt c ll m s ll.length).1.getD i []).getD k 0 = (q : Int) ∧ q < ll.length := by
  obtain ⟨a, h1, h2⟩ := clSt_cls c ll m s ll.length (Nat.le_refl _) ((clSt c ll m s ll.length).1.getD i []) (by rw [List.getD_eq_getElem?_getD, List.getElem?_eq_getElem hi]; exact List.getElem_mem _)
  have hm : ((clSt c ll m s ll.length).1.getD i []).getD k 0 ∈ clsC c ll m s a := by rw [← h2, ← get_getD _ k hk]; exact List.getElem_mem _
  rcases (clsC_mem c ll m s a h1 _).1 hm with h | ⟨q, h3, h4, h5, h6⟩
  · exact ⟨a, h, h1⟩
  · exact ⟨q, h6, h4⟩
theorem bit_one (X k : Nat) : (bits BinOp.and IntKind.i64 ((X : Int) / 2 ^ k) 1 == 1) = bitB X k := bit_test X k
theorem cell_on {w w' : World} {p : Addr} {v : Value} (h : w.cell? p = some v) (b : Below w.heap.size w w') : w'.cell? p = some v := (b.cell (World.block_lt_of_cell? w _ h)).trans h
/-- What a region of a class's rows holds on to. -/
theorem keep6 {w3 w' w'' : World} {p0 p1 p2 p3 p4 p5 : Addr} {v0 v1 v2 v3 v4 v5 : Value} (h : (w'.cell? p0 = some v0 ∧ w'.cell? p1 = some v1) ∧ w'.cell? p2 = some v2 ∧ w'.cell? p3 = some v3 ∧ w'.cell? p4 = some v4 ∧ w'.cell? p5 = some v5 ∧ Below w3.heap.size w3 w') (b : Below w'.heap.size w' w'') :
    (w''.cell? p0 = some v0 ∧ w''.cell? p1 = some v1) ∧ w''.cell? p2 = some v2 ∧ w''.cell? p3 = some v3 ∧ w''.cell? p4 = some v4 ∧ w''.cell? p5 = some v5 ∧ Below w3.heap.size w3 w'' :=
  ⟨⟨cell_on h.1.1 b, cell_on h.1.2 b⟩, cell_on h.2.1 b, cell_on h.2.2.1 b, cell_on h.2.2.2.1 b, cell_on h.2.2.2.2.1 b, h.2.2.2.2.2.trans (b.mono h.2.2.2.2.2.size)⟩
theorem below6 {w3 w' : World} {p0 p1 p2 p3 p4 p5 : Addr} {v0 v1 v2 v3 v4 v5 : Value} (h : (w'.cell? p0 = some v0 ∧ w'.cell? p1 = some v1) ∧ w'.cell? p2 = some v2 ∧ w'.cell? p3 = some v3 ∧ w'.cell? p4 = some v4 ∧ w'.cell? p5 = some v5 ∧ Below w3.heap.size w3 w') : Below w3.heap.size w3 w' := h.2.2.2.2.2
section
set_option maxRecDepth 20000
set_option maxHeartbeats 3200000
theorem rowsToRemove_any (c m l r : Int) (v : Value) (ll : List (List Int)) (w : World) (hr : ReadSS w v ll) (hl : ll.length ≤ 1048576) (ht : ∀ i, i < ll.length → (ll.getD i []).length ≤ 1048576) :
    Calls Tryz.prog 18 #[.agg #[.int .i64 c, v], .int .i64 m, .agg #[.int .i64 l, .int .i64 r]] w fun e w' => e = .returned (.int .i64 (remD c ll m l r)) ∧ Below w.heap.size w w' := by
  have HF := Lib.hid (fun w' (hb : Below w.heap.size w w') => l4Fine_any c m v ll w' (hr.kept hb) hl ht)
  have HD := Lib.hid (isDep_any c l r)
  have HP := Lib.hid (fun w' (hb : Below w.heap.size w w') hT => classes5_any c m l v ll w' (hr.kept hb) hT)
  have HK := Lib.hid (fun (i k : Nat) w' (hb : Below w.heap.size w w') hT (hi : i < ll.length) (hk : k < ll.length) => l4Agree_any c m i k v ll w' (hr.kept hb) hT hi hk)
  obtain ⟨a, cap, rfl, -⟩ := hr
  have hb1 := (Below.refl w.heap.size w).alloc (Nat.le_refl _) (.cells #[.int .i64 c, .slice a ll.length cap] 26)
  have hb2 := hb1.alloc hb1.size (.cells #[.int .i64 l, .int .i64 r] 37)
  have HB2 := Lib.hid hb2
  have HRF := Lib.hid (Below.refl ((w.alloc (.cells #[.int .i64 c, .slice a ll.length cap] 26)).alloc (.cells #[.int .i64 l, .int .i64 r] 37)).heap.size ((w.alloc (.cells #[.int .i64 c, .slice a ll.length cap] 26)).alloc (.cells #[.int .i64 l, .int .i64 r] 37)))
  obtain ⟨⟨c0, c1⟩, d0, d1⟩ := boxTD HRF.out
  clear hb1 hb2 ht
  cases hf : fineT c ll m with
  | false =>
    have HE : Hid (remD c ll m l r = -1) := Lib.hid (by unfold remD okD; rw [hf]; rfl)
    rw [hf] at HF
    clear hf
    go_enter Tryz.func18, Tryz.ntmps18
    go_wp2_with fail
    refine (HF.out _ HB2.out).mono ?_
    rintro e w1 ⟨rfl, b1⟩
    have hb1 := HRF.out.trans (b1.mono HRF.out.size)
    clear b1 c0 c1 d0 d1
    obtain ⟨⟨c0, c1⟩, d0, d1⟩ := boxTD hb1
    have hb2 := HB2.out.trans (hb1.mono HB2.out.size)
    go_wp2_with fail
    go_ret
    exact ⟨by rw [HE.out]; rfl, hb2⟩
  | true =>
    rw [hf] at HF
    cases hd : depB c l r with
    | false =>
      have HE : Hid (remD c ll m l r = -1) := Lib.hid (by unfold remD okD; rw [hd]; simp)
      rw [hd] at HD
      clear hf hd
      go_enter Tryz.func18, Tryz.ntmps18
      go_wp2_with fail
      refine (HF.out _ HB2.out).mono ?_
      rintro e w1 ⟨rfl, b1⟩
      have hb1 := HRF.out.trans (b1.mono HRF.out.size)
      clear b1 c0 c1 d0 d1
      obtain ⟨⟨c0, c1⟩, d0, d1⟩ := boxTD hb1
      have hb2 := HB2.out.trans (hb1.mono HB2.out.size)
      go_wp2_with fail
      refine (HD.out _).mono ?_
      rintro e w2 ⟨rfl, b2⟩
      have hb3 := hb1.trans (b2.mono hb1.size)
      clear b2 c0 c1 d0 d1 hb2
      obtain ⟨⟨c0, c1⟩, d0, d1⟩ := boxTD hb3
      have hb4 := HB2.out.trans (hb3.mono HB2.out.size)
      go_wp2_with fail
      go_ret
      exact ⟨by rw [HE.out]; rfl, hb4⟩
    | true =>
      rw [hd] at HD
      have hT := fineT_isT hf
      have hok : okD c ll m l r = true := by unfold okD; rw [hf, hd]; rfl
      have HQ := Lib.hid (fun w' hb => HP.out w' hb hT)
      have HA := Lib.hid (fun i k w' hb hi hk => HK.out i k w' hb hT hi hk)
      obtain ⟨L, R, rfl, rfl, hR⟩ := depB_nat hd
      obtain ⟨hc1, hc5, h40⟩ := isT_bd hT
      have HE : Hid (remD c ll m (L : Int) (R : Int) = remTo c.toNat ll m R (clSt c.toNat ll m (L : Int) ll.length).1 (clSt c.toNat ll m (L : Int) ll.length).1.length) := Lib.hid (by unfold remD; rw [if_pos hok]; rfl)
      have HRO := Lib.hid (fun i k hi hk => clSt_rows (c := c.toNat) (ll := ll) (m := m) (s := (L : Int)) (i := i) (k := k) hi hk)
      have hbd : (clSt c.toNat ll m (L : Int) ll.length).1.length ≤ 40 ∧ tot (clSt c.toNat ll m (L : Int) ll.length).1 ≤ 1600 := by
        have h1 := (clSt_len c.toNat ll m (L : Int) ll.length (Nat.le_refl _)).1
        have h2 := clSt_tot c.toNat ll m (L : Int) h40 ll.length (Nat.le_refl _)
        omega
      obtain ⟨P, hP⟩ : ∃ P, P = (clSt c.toNat ll m (L : Int) ll.length).1 := ⟨_, rfl⟩
      rw [← hP] at HE HRO hbd HQ
      have HTN := Lib.hid (fun i k => agrTo_nat6 m (ll.getD i []) (ll.getD k []) c.toNat (by omega))
      clear hf hd hT hok hP HP HK
      go_enter Tryz.func18, Tryz.ntmps18
      go_wp2_with fail
      refine (HF.out _ HB2.out).mono ?_
      rintro e w1 ⟨rfl, b1⟩
      have hb1 := HRF.out.trans (b1.mono HRF.out.size)
      clear b1 c0 c1 d0 d1
      obtain ⟨⟨c0, c1⟩, d0, d1⟩ := boxTD hb1
      have hb2 := HB2.out.trans (hb1.mono HB2.out.size)
      go_wp2_with fail
      refine (HD.out _).mono ?_
      rintro e w2 ⟨rfl, b2⟩
      have hb3 := hb1.trans (b2.mono hb1.size)
      clear b2 c0 c1 d0 d1 hb2
      obtain ⟨⟨c0, c1⟩, d0, d1⟩ := boxTD hb3
      have hb4 := HB2.out.trans (hb3.mono HB2.out.size)
      go_wp2_with fail
      refine (HQ.out _ hb4).mono ?_
      rintro e w3 ⟨pv, rfl, hop, b3⟩
      have hb5 := hb3.trans (b3.mono hb3.size)
      clear b3 c0 c1 d0 d1 hb4 hb3 hb1
      obtain ⟨⟨c0, c1⟩, d0, d1⟩ := boxTD hb5
      obtain ⟨ap, capp, rfl, hrp⟩ := hop.read
      have HRP := Lib.hid hrp
      clear hrp hop
      go_wp2_with fail
      go_loopw [7, 9] (fun nv iv wr => ∃ (i : Nat) (n : Int), i ≤ P.length ∧ iv = .int .i64 (i : Int) ∧ nv = .int .i64 n ∧ Hid (n = remTo c.toNat ll m R P i) ∧ Hid (Below w3.heap.size w3 wr)) (fun _ iv _ => P.length - (intOf iv).toNat)
      case atStart => exact ⟨0, 0, by omega, rfl, rfl, Lib.hid rfl, Lib.hid (Below.refl _ _)⟩
      case round =>
        clear c0 c1 d0 d1
        obtain ⟨i, n, hi, rfl, rfl, HN, HB⟩ := hrel
        obtain ⟨w4, hw4⟩ : ∃ w', w' = wr := ⟨_, rfl⟩
        rw [← hw4] at HB ⊢
        clear hw4
        obtain ⟨⟨c0, c1⟩, d0, d1⟩ := boxTD (hb5.trans (HB.out.mono hb5.size))
        by_cases hlt : i < P.length
        · obtain ⟨x, u, rfl, hx, hu⟩ := HRP.out i hlt
          have hpl := tot_get hlt
          have hnb := remTo_bd c.toNat ll m R P i (by omega)
          have hmb := mostTo_le c.toNat ll m R (P.getD i []) (P.getD i []).length
          have htk := tot_take P i
          have HSU := Lib.hid (show remTo c.toNat ll m R P (i + 1) = remTo c.toNat ll m R P i + (P.getD i []).length - mostTo c.toNat ll m R (P.getD i []) (P.getD i []).length from rfl)
          have HQI := Lib.hid (fun k hk => HRO.out i k hlt hk)
          obtain ⟨q, hq⟩ : ∃ q, q = P.getD i [] := ⟨_, rfl⟩
          rw [← hq] at hu hpl hmb HSU HQI
          obtain ⟨aq, cq, rfl, hrq⟩ := hu
          have HRQ := Lib.hid hrq
          have hx4 := (HB.out.cell (World.block_lt_of_cell? w3 _ hx)).trans hx
          have HX := Lib.hid hx
          rw [← HN.out] at hnb
          have z0 : (0 : Int) ≤ (i : Int) := by omega
          have z1 : (i : Int) < (P.length : Int) := by omega
          clear hrq hq hx
          go_wp2_with fail
          go_loopw [10, 11] (fun mv kv wr => ∃ (k mo : Nat), k ≤ q.length ∧ kv = .int .i64 (k : Int) ∧ mv = .int .i64 (mo : Int) ∧ Hid (mo = mostTo c.toNat ll m R q k) ∧ Hid (Below w3.heap.size w3 wr)) (fun _ kv _ => q.length - (intOf kv).toNat)
          case atStart => exact ⟨0, 0, by omega, rfl, rfl, Lib.hid rfl, HB⟩
          case round =>
            clear c0 c1 d0 d1 hx4 HB
            obtain ⟨k, mo, hk, rfl, rfl, HM, HB⟩ := hrel
            obtain ⟨w5, hw5⟩ : ∃ w', w' = wr := ⟨_, rfl⟩
            rw [← hw5] at HB ⊢
            clear hw5
            obtain ⟨⟨c0, c1⟩, d0, d1⟩ := boxTD (hb5.trans (HB.out.mono hb5.size))
            have hx5 := (HB.out.cell (World.block_lt_of_cell? w3 _ HX.out)).trans HX.out
            by_cases hlk : k < q.length
            · have z2 : (0 : Int) ≤ (k : Int) := by omega
              have z3 : (k : Int) < (q.length : Int) := by omega
              go_wp2_with fail
              go_loopw [12, 13] (fun sv jv wr => ∃ (j sa : Nat), j ≤ q.length ∧ jv = .int .i64 (j : Int) ∧ sv = .int .i64 (sa : Int) ∧ Hid (sa = sameTo c.toNat ll m R q k j) ∧ Hid (Below w3.heap.size w3 wr)) (fun _ jv _ => q.length - (intOf jv).toNat)
              case atStart => exact ⟨0, 1, by omega, rfl, rfl, Lib.hid rfl, HB⟩
              case round =>
                clear c0 c1 d0 d1 hx5 HB
                obtain ⟨j, sa, hj, rfl, rfl, HS, HB⟩ := hrel
                obtain ⟨w6, hw6⟩ : ∃ w', w' = wr := ⟨_, rfl⟩
                rw [← hw6] at HB ⊢
                clear hw6
                obtain ⟨⟨c0, c1⟩, d0, d1⟩ := boxTD (hb5.trans (HB.out.mono hb5.size))
                have hx6 := (HB.out.cell (World.block_lt_of_cell? w3 _ HX.out)).trans HX.out
                by_cases hlj : j < q.length
                · have z4 : (0 : Int) ≤ (j : Int) := by omega
                  have z5 : (j : Int) < (q.length : Int) := by omega
                  have hsb := sameTo_le c.toNat ll m R q k j
                  rw [← HS.out] at hsb
                  by_cases hjk : j = k
                  · have HNX : Hid (sa = sameTo c.toNat ll m R q k (j + 1)) := Lib.hid (by rw [HS.out]; show _ = if j ≠ k ∧ _ then _ else _; rw [if_neg (fun h => h.1 hjk)])
                    subst hjk
                    go_wp2_with fail
                    go_region
                    go_wp2_with fail
                    have HBD := Lib.hid HB.out.drew
                    go_roundw
                    case rel => exact ⟨j + 1, sa, by omega, by go_num, rfl, HNX, Lib.hid HBD.out⟩
                    case measure => simp [intOf]; omega
                  · have HNX := Lib.hid (show sameTo c.toNat ll m R q k (j + 1) = if j ≠ k ∧ eqR c.toNat ll m R (q.getD k 0) (q.getD j 0) = true then sameTo c.toNat ll m R q k j + 1 else sameTo c.toNat ll m R q k j from rfl)
                    obtain ⟨xk, hxk, hyk⟩ := HRQ.out k hlk
                    obtain ⟨xk', hxk', hyj⟩ := HRQ.out j hlj
                    subst hxk
                    obtain rfl := Option.some.inj hxk'
                    rw [get_getD q k hlk] at hyk
                    rw [get_getD q j hlj] at hyj
                    obtain ⟨A, hA, hA2⟩ := HQI.out k hlk
                    obtain ⟨B, hB, hB2⟩ := HQI.out j hlj
                    rw [hA] at hyk
                    rw [hB] at hyj
                    rw [hA, hB] at HNX
                    have hyk6 := (HB.out.cell (World.block_lt_of_cell? w3 _ hyk)).trans hyk
                    have hyj6 := (HB.out.cell (World.block_lt_of_cell? w3 _ hyj)).trans hyj
                    obtain ⟨X, hX, hX32⟩ := HTN.out A B
                    have HC := Lib.hid (fun w' (hb : Below w3.heap.size w3 w') => HA.out A B w' (HB2.out.trans ((hb5.trans (hb.mono hb5.size)).mono HB2.out.size)) hA2 hB2)
                    rw [hX] at HC
                    have hER : eqR c.toNat ll m R (A : Int) (B : Int) = bitB X R := by
                      unfold eqR; rw [show ((A : Int)).toNat = A from rfl, show ((B : Int)).toNat = B from rfl, hX]; rfl
                    rw [hER] at HNX
                    have HBZ := Lib.hid (bit_one X R)
                    have hne : ((j : Int) != (k : Int)) = true := by rw [bne_iff_ne]; omega
                    have hsz3 := HB.out.size
                    clear hxk' hyk hyj hA hB hX hER
                    go_wp2_with fail
                    go_region_held3 (fun w' => (w'.cell? ⟨w.heap.size, 0, none⟩ = some (.int .i64 c) ∧ w'.cell? ⟨w.heap.size, 1, none⟩ = some (.slice a ll.length cap)) ∧ w'.cell? ⟨w.heap.size + 1, 1, none⟩ = some (.int .i64 (R : Int)) ∧ w'.cell? (x.add i) = some (.slice (some xk) q.length cq) ∧ w'.cell? (xk.add k) = some (.int .i64 (A : Int)) ∧ w'.cell? (xk.add j) = some (.int .i64 (B : Int)) ∧ Below w3.heap.size w3 w') (first | exact keep6 (by assumption) (by assumption) | exact ⟨⟨c0, c1⟩, d1, hx6, hyk6, hyj6, HB.out.drew⟩) (first | (go_at_call 51; refine (HC.out _ (below6 (by assumption))).mono ?_; rintro e w91 ⟨rfl, b91⟩))
                    have HB7 := Lib.hid (below6 (w' := w91) (by assumption))
                    clear c0 c1 d0 d1 hx6 hyk6 hyj6
                    cases hbx : bitB X R with
                    | true =>
                      rw [hbx] at HNX HBZ
                      have h3 := HBZ.out
                      have HN2 : Hid (((sa + 1 : Nat) : Int) = ((sameTo c.toNat ll m R q k (j + 1) : Nat) : Int)) := Lib.hid (by rw [HNX.out, if_pos ⟨hjk, rfl⟩, HS.out])
                      clear hbx HBZ HNX
                      go_wp2_with fail
                      go_roundw
                      case rel => exact ⟨j + 1, sa + 1, by omega, by go_num, by go_num, Lib.hid (Int.ofNat.inj HN2.out), HB7⟩
                      case measure => simp [intOf]; omega
                    | false =>
                      rw [hbx] at HNX HBZ
                      have h3 := HBZ.out
                      have HN2 : Hid (sa = sameTo c.toNat ll m R q k (j + 1)) := Lib.hid (by rw [HNX.out, if_neg (fun h => by cases h.2), HS.out])
                      clear hbx HBZ HNX
                      go_wp2_with fail
                      go_roundw
                      case rel => exact ⟨j + 1, sa, by omega, by go_num, rfl, HN2, HB7⟩
                      case measure => simp [intOf]; omega
                · obtain rfl : j = q.length := by omega
                  have hsb := sameTo_le c.toNat ll m R q k q.length
                  rw [← HS.out] at hsb
                  have HM2 : Hid (max mo sa = mostTo c.toNat ll m R q (k + 1)) := Lib.hid (by rw [HM.out, HS.out]; rfl)
                  go_wp2_with fail
                  go_roundw
                  case rel => exact ⟨k + 1, max mo sa, by omega, by go_num, by split <;> (congr 1; omega), HM2, HB⟩
                  case measure => simp [intOf]; omega
            · obtain rfl : k = q.length := by omega
              have HN2 : Hid (n + (q.length : Int) - (mo : Int) = remTo c.toNat ll m R P (i + 1)) := Lib.hid (by rw [HSU.out, HN.out, HM.out])
              rw [← HM.out] at hmb
              go_wp2_with fail
              go_roundw
              case rel => exact ⟨i + 1, n + (q.length : Int) - (mo : Int), by omega, by go_num, by go_num, HN2, HB⟩
              case measure => simp [intOf]; omega
        · obtain rfl : i = P.length := by omega
          have hbq := HB2.out.trans ((hb5.trans (HB.out.mono hb5.size)).mono HB2.out.size)
          go_wp2_with fail
          go_ret
          exact ⟨by rw [HE.out, ← HN.out]; rfl, hbq⟩
end
end Go.Proofs.YtlecfkfcjhliiaaGreat
