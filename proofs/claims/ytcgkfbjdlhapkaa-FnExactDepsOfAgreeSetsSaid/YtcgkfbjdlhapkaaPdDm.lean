/- The program's chapter 11: a list without one of its dependencies, a whole dependency that can be spared, by contract. Conditions: as stated. -/
import Derived.Test.YtcgkfbjdlhapkaaYa39
namespace Go.Proofs.Ytcgkfbjdlhapkaa
open Go.RowKit

theorem concat_at (g na nb : Nat) (aa ab : Option Addr) (ca cb : Nat) (a b : List (Int × Int)) (w : World) (ha : ReadD w (.slice aa na ca) a) (hb : ReadD w (.slice ab nb cb) b) (hla : a.length ≤ 1000) (hlb : b.length ≤ 1000) (h0 : w.cell? ⟨g, 0, none⟩ = some (.slice aa na ca)) (h1 : w.cell? ⟨g, 1, none⟩ = some (.slice ab nb cb)) :
    Calls Try.prog 133 #[.slice (some ⟨g, 0, none⟩) 2 2] w (RetD (a ++ b) w) := by
  obtain rfl : na = a.length := by obtain ⟨_, _, hv, _⟩ := ha; cases hv; rfl
  obtain rfl : nb = b.length := by obtain ⟨_, _, hv, _⟩ := hb; cases hv; rfl
  exact concat_any g aa ab ca cb a b w ha hb hla hlb h0 h1
theorem erase_tk (l : List (Int × Int)) (k : Nat) : l.take k ++ l.drop (k + 1) = l.eraseIdx k := (List.eraseIdx_eq_take_drop_succ _ _).symm
section
set_option maxRecDepth 20000
set_option maxHeartbeats 3200000
theorem others_any (v : Value) (k : Nat) (l : List (Int × Int)) (w : World) (hr : ReadD w v l) (hl : l.length ≤ 1000) (hk : k < l.length) (hcap : CapOk v) :
    Calls Try.prog 113 #[.int .i64 (k : Int), v] w (RetD (l.eraseIdx k) w) := by
  have HR := Lib.hid (fun w' (hb : Below w.heap.size w w') => hr.kept hb)
  obtain ⟨a, cap, rfl, hc⟩ := hr
  obtain ⟨b, o, rfl, -, -⟩ := hc 0 (by omega)
  have hcl := hcap _ _ _ rfl
  have y0 : k ≤ cap := by omega
  have y1 : k + 1 ≤ cap := by omega
  have y2 : k ≤ l.length := by omega
  have y3 : k + 1 ≤ l.length := by omega
  have z0 : (0 : Int) ≤ (k : Int) := by omega
  have z1 : (k : Int) < (l.length : Int) := by omega
  have s1 : (k : Int) ≤ (k : Int) + 1 := by omega
  have s2 : (0 : Int) ≤ (k : Int) + 1 := by omega
  have s3 : (k : Int) + 1 ≤ (l.length : Int) := by omega
  have hw1 : IntKind.i64.wrap ((k : Int) + 1) = ((k + 1 : Nat) : Int) := by rw [IntWalk.i64_in _ (by omega)]; omega
  clear hc hcap
  have HTK := Lib.hid (fun w' hb => (HR.out w' hb).take k (by omega) cap)
  rw [← erase_tk]
  by_cases hce : k + 1 = cap
  · have hln : l.length = k + 1 := by omega
    have HDR : Hid (∀ w', Below w.heap.size w w' → ReadD w' (.slice (some ⟨b, o, none⟩) 0 0) (l.drop (k + 1))) := Lib.hid (fun w' _ => by
      have e : l.drop (k + 1) = [] := List.drop_eq_nil_of_le (by omega)
      rw [e]
      exact ⟨_, _, rfl, fun i hi => by simp at hi⟩)
    have HZ := Lib.hid (zero2 w.drew 26 (.slice (some ⟨b, o, none⟩) k cap) (.slice (some ⟨b, o, none⟩) 0 0))
    subst hce
    go_enter Try.func113, Try.ntmps113
    go_upto_region 1 with fail
    refine wp_region_noPanic ?_
    refine wp_region_held_drew (S := (fun w' => Below w.heap.size w w')) (by kernel_rfl) ?_ (fun hHeld => ?_)
    · ((try dsimp only); (first | exact hHeld.trans (b91.mono hHeld.size) | exact hHeld.alloc hHeld.size _ | exact (Below.refl _ _).drew))
    refine wpAnyH_take (i := 0) (v := ?_) rfl (by kernel_rfl) (by kernel_rfl) (by kernel_rfl) (fun _ _ _ h => h) (Or.inl ⟨by rfl, ?_⟩) (by assumption) ?_
    rotate_left
    · (intro w hSw; (try dsimp only at hSw); go_simp; (try with_reducible rfl))
    (try simp only [Act.put, List.getElem_toArray, List.getElem_cons_zero, List.setIfInBounds_toArray, List.set_cons_zero, List.set_cons_succ])
    refine wpAnyH_take (i := 1) (v := ?_) rfl (by kernel_rfl) (by kernel_rfl) (by kernel_rfl) (fun _ _ _ h => h) (Or.inl ⟨by rfl, ?_⟩) (by assumption) ?_
    rotate_left
    · (intro w hSw; (try dsimp only at hSw); go_simp; (try with_reducible rfl))
    (try simp only [Act.put, List.getElem_toArray, List.getElem_cons_succ, List.getElem_cons_zero, List.setIfInBounds_toArray, List.set_cons_zero, List.set_cons_succ])
    refine wpAnyH_take (i := 2) (v := ?_) rfl (by kernel_rfl) (by kernel_rfl) (by kernel_rfl) (fun _ _ _ h => h) (Or.inl ⟨by rfl, ?_⟩) (by assumption) ?_
    rotate_left
    · (intro w hSw; (try dsimp only at hSw); go_simp; (try with_reducible rfl))
    (try simp only [Act.put, List.getElem_toArray, List.getElem_cons_succ, List.getElem_cons_zero, List.setIfInBounds_toArray, List.set_cons_zero, List.set_cons_succ])
    refine wpAnyH_take (i := 3) (v := ?_) rfl (by kernel_rfl) (by kernel_rfl) (by kernel_rfl) (fun _ _ _ h => h) (Or.inl ⟨by rfl, ?_⟩) (by assumption) ?_
    rotate_left
    · (intro w hSw; (try dsimp only at hSw); go_simp; (try with_reducible rfl))
    (try simp only [Act.put, List.getElem_toArray, List.getElem_cons_succ, List.getElem_cons_zero, List.setIfInBounds_toArray, List.set_cons_zero, List.set_cons_succ])
    refine wpAnyH_take (i := 4) (v := ?_) rfl (by kernel_rfl) (by kernel_rfl) (by kernel_rfl) (fun _ _ _ h => h) (Or.inl ⟨by rfl, ?_⟩) (by assumption) ?_
    rotate_left
    · (intro w hSw; (try dsimp only at hSw); go_simp; (try with_reducible rfl))
    (try simp only [Act.put, List.getElem_toArray, List.getElem_cons_succ, List.getElem_cons_zero, List.setIfInBounds_toArray, List.set_cons_zero, List.set_cons_succ])
    refine wpAnyH_take (i := 5) (v := ?_) rfl (by kernel_rfl) (by kernel_rfl) (by kernel_rfl) (fun _ _ _ h => h) (Or.inl ⟨by rfl, ?_⟩) (by assumption) ?_
    rotate_left
    · (intro w hSw; (try dsimp only at hSw); go_simp; (try with_reducible rfl))
    (try simp only [Act.put, List.getElem_toArray, List.getElem_cons_succ, List.getElem_cons_zero, List.setIfInBounds_toArray, List.set_cons_zero, List.set_cons_succ])
    refine wpAnyH_take (i := 6) (v := ?_) rfl (by kernel_rfl) (by kernel_rfl) (by kernel_rfl) (fun _ _ _ h => h) (Or.inl ⟨by rfl, ?_⟩) (by assumption) ?_
    rotate_left
    · (intro w hSw; (try dsimp only at hSw); go_simp; (try with_reducible rfl))
    (try simp only [Act.put, List.getElem_toArray, List.getElem_cons_succ, List.getElem_cons_zero, List.setIfInBounds_toArray, List.set_cons_zero, List.set_cons_succ])
    refine wpAnyH_ready (rs := [7]) (by kernel_rfl) (by simp) (AllReadyH.cons rfl (fun K hK => ?_) AllReadyH.nil)
    (first | (go_simp; done) | go_wp2_with fail)
    refine hK.out _ _ ?_ (fun hHeld => ?_)
    · ((try dsimp only); (first | exact hHeld.trans (b91.mono hHeld.size) | exact hHeld.alloc hHeld.size _ | exact (Below.refl _ _).drew))
    clear hK K
    (try simp only [Act.put, List.getElem_toArray, List.getElem_cons_succ, List.getElem_cons_zero, List.setIfInBounds_toArray, List.set_cons_zero, List.set_cons_succ])
    refine wpAnyH_ready (rs := [8]) (by kernel_rfl) (by simp) (AllReadyH.cons rfl (fun K hK => ?_) AllReadyH.nil)
    (first | ((go_at_call 133; refine (concat_at _ _ _ _ _ _ _ _ _ _ (HTK.out _ hHeld) (HDR.out _ hHeld) (by rw [List.length_take]; omega) (by rw [List.length_drop]; omega) HZ.out.1 HZ.out.2).mono ?_; rintro e w91 ⟨v91, rfl, o91, b91⟩)) | (go_simp; (go_at_call 133; refine (concat_at _ _ _ _ _ _ _ _ _ _ (HTK.out _ hHeld) (HDR.out _ hHeld) (by rw [List.length_take]; omega) (by rw [List.length_drop]; omega) HZ.out.1 HZ.out.2).mono ?_; rintro e w91 ⟨v91, rfl, o91, b91⟩)))
    (try (go_wp2_with fail))
    refine hK.out _ _ ?_ (fun hHeld => ?_)
    · ((try dsimp only); (first | exact hHeld.trans (b91.mono hHeld.size) | exact hHeld.alloc hHeld.size _ | exact (Below.refl _ _).drew))
    clear hK K
    (try simp only [Act.put, List.getElem_toArray, List.getElem_cons_succ, List.getElem_cons_zero, List.setIfInBounds_toArray, List.set_cons_zero, List.set_cons_succ])
    refine wpAnyH_take (i := 9) (v := ?_) rfl (by kernel_rfl) (by kernel_rfl) (by kernel_rfl) (fun _ _ _ h => h) (Or.inl ⟨by rfl, ?_⟩) (by assumption) ?_
    rotate_left
    · (intro w hSw; (try dsimp only at hSw); go_simp; (try with_reducible rfl))
    (try simp only [Act.put, List.getElem_toArray, List.getElem_cons_succ, List.getElem_cons_zero, List.setIfInBounds_toArray, List.set_cons_zero, List.set_cons_succ])
    refine wpAnyH_done (by kernel_rfl) ?_ _
    refine NoPanic.normal ?_
    have HBE := Lib.hid hHeld
    clear hHeld
    go_wp2_with fail
    go_ret
    exact ⟨_, rfl, o91.base (by simp), HBE.out⟩
  · have hlt : k + 1 < cap := by omega
    have HDR := Lib.hid (fun w' hb => (HR.out w' hb).drop (k + 1) (cap - (k + 1)))
    have HZ := Lib.hid (zero2 w.drew 26 (.slice (some ⟨b, o, none⟩) k cap) (.slice (some ⟨b, o + (k + 1) * 2, none⟩) (l.length - (k + 1)) (cap - (k + 1))))
    clear y1
    have s4 : ¬ (cap = k + 1) := by omega
    go_enter Try.func113, Try.ntmps113
    go_upto_region 1 with fail
    refine wp_region_noPanic ?_
    refine wp_region_held_drew (S := (fun w' => Below w.heap.size w w')) (by kernel_rfl) ?_ (fun hHeld => ?_)
    · ((try dsimp only); (first | exact hHeld.trans (b91.mono hHeld.size) | exact hHeld.alloc hHeld.size _ | exact (Below.refl _ _).drew))
    refine wpAnyH_take (i := 0) (v := ?_) rfl (by kernel_rfl) (by kernel_rfl) (by kernel_rfl) (fun _ _ _ h => h) (Or.inl ⟨by rfl, ?_⟩) (by assumption) ?_
    rotate_left
    · (intro w hSw; (try dsimp only at hSw); go_simp; (try with_reducible rfl))
    (try simp only [Act.put, List.getElem_toArray, List.getElem_cons_zero, List.setIfInBounds_toArray, List.set_cons_zero, List.set_cons_succ])
    refine wpAnyH_take (i := 1) (v := ?_) rfl (by kernel_rfl) (by kernel_rfl) (by kernel_rfl) (fun _ _ _ h => h) (Or.inl ⟨by rfl, ?_⟩) (by assumption) ?_
    rotate_left
    · (intro w hSw; (try dsimp only at hSw); go_simp; (try with_reducible rfl))
    (try simp only [Act.put, List.getElem_toArray, List.getElem_cons_succ, List.getElem_cons_zero, List.setIfInBounds_toArray, List.set_cons_zero, List.set_cons_succ])
    refine wpAnyH_take (i := 2) (v := ?_) rfl (by kernel_rfl) (by kernel_rfl) (by kernel_rfl) (fun _ _ _ h => h) (Or.inl ⟨by rfl, ?_⟩) (by assumption) ?_
    rotate_left
    · (intro w hSw; (try dsimp only at hSw); go_simp; (try with_reducible rfl))
    (try simp only [Act.put, List.getElem_toArray, List.getElem_cons_succ, List.getElem_cons_zero, List.setIfInBounds_toArray, List.set_cons_zero, List.set_cons_succ])
    refine wpAnyH_take (i := 3) (v := ?_) rfl (by kernel_rfl) (by kernel_rfl) (by kernel_rfl) (fun _ _ _ h => h) (Or.inl ⟨by rfl, ?_⟩) (by assumption) ?_
    rotate_left
    · (intro w hSw; (try dsimp only at hSw); go_simp; (try with_reducible rfl))
    (try simp only [Act.put, List.getElem_toArray, List.getElem_cons_succ, List.getElem_cons_zero, List.setIfInBounds_toArray, List.set_cons_zero, List.set_cons_succ])
    refine wpAnyH_take (i := 4) (v := ?_) rfl (by kernel_rfl) (by kernel_rfl) (by kernel_rfl) (fun _ _ _ h => h) (Or.inl ⟨by rfl, ?_⟩) (by assumption) ?_
    rotate_left
    · (intro w hSw; (try dsimp only at hSw); go_simp; (try with_reducible rfl))
    (try simp only [Act.put, List.getElem_toArray, List.getElem_cons_succ, List.getElem_cons_zero, List.setIfInBounds_toArray, List.set_cons_zero, List.set_cons_succ])
    refine wpAnyH_take (i := 5) (v := ?_) rfl (by kernel_rfl) (by kernel_rfl) (by kernel_rfl) (fun _ _ _ h => h) (Or.inl ⟨by rfl, ?_⟩) (by assumption) ?_
    rotate_left
    · (intro w hSw; (try dsimp only at hSw); go_simp; (try with_reducible rfl))
    (try simp only [Act.put, List.getElem_toArray, List.getElem_cons_succ, List.getElem_cons_zero, List.setIfInBounds_toArray, List.set_cons_zero, List.set_cons_succ])
    refine wpAnyH_take (i := 6) (v := ?_) rfl (by kernel_rfl) (by kernel_rfl) (by kernel_rfl) (fun _ _ _ h => h) (Or.inl ⟨by rfl, ?_⟩) (by assumption) ?_
    rotate_left
    · (intro w hSw; (try dsimp only at hSw); go_simp; (try with_reducible rfl))
    (try simp only [Act.put, List.getElem_toArray, List.getElem_cons_succ, List.getElem_cons_zero, List.setIfInBounds_toArray, List.set_cons_zero, List.set_cons_succ])
    refine wpAnyH_ready (rs := [7]) (by kernel_rfl) (by simp) (AllReadyH.cons rfl (fun K hK => ?_) AllReadyH.nil)
    (first | (go_simp; done) | go_wp2_with fail)
    refine hK.out _ _ ?_ (fun hHeld => ?_)
    · ((try dsimp only); (first | exact hHeld.trans (b91.mono hHeld.size) | exact hHeld.alloc hHeld.size _ | exact (Below.refl _ _).drew))
    clear hK K
    (try simp only [Act.put, List.getElem_toArray, List.getElem_cons_succ, List.getElem_cons_zero, List.setIfInBounds_toArray, List.set_cons_zero, List.set_cons_succ])
    refine wpAnyH_ready (rs := [8]) (by kernel_rfl) (by simp) (AllReadyH.cons rfl (fun K hK => ?_) AllReadyH.nil)
    (first | ((go_at_call 133; refine (concat_at _ _ _ _ _ _ _ _ _ _ (HTK.out _ hHeld) (HDR.out _ hHeld) (by rw [List.length_take]; omega) (by rw [List.length_drop]; omega) HZ.out.1 HZ.out.2).mono ?_; rintro e w91 ⟨v91, rfl, o91, b91⟩)) | (go_simp; (go_at_call 133; refine (concat_at _ _ _ _ _ _ _ _ _ _ (HTK.out _ hHeld) (HDR.out _ hHeld) (by rw [List.length_take]; omega) (by rw [List.length_drop]; omega) HZ.out.1 HZ.out.2).mono ?_; rintro e w91 ⟨v91, rfl, o91, b91⟩)))
    (try (go_wp2_with fail))
    refine hK.out _ _ ?_ (fun hHeld => ?_)
    · ((try dsimp only); (first | exact hHeld.trans (b91.mono hHeld.size) | exact hHeld.alloc hHeld.size _ | exact (Below.refl _ _).drew))
    clear hK K
    (try simp only [Act.put, List.getElem_toArray, List.getElem_cons_succ, List.getElem_cons_zero, List.setIfInBounds_toArray, List.set_cons_zero, List.set_cons_succ])
    refine wpAnyH_take (i := 9) (v := ?_) rfl (by kernel_rfl) (by kernel_rfl) (by kernel_rfl) (fun _ _ _ h => h) (Or.inl ⟨by rfl, ?_⟩) (by assumption) ?_
    rotate_left
    · (intro w hSw; (try dsimp only at hSw); go_simp; (try with_reducible rfl))
    (try simp only [Act.put, List.getElem_toArray, List.getElem_cons_succ, List.getElem_cons_zero, List.setIfInBounds_toArray, List.set_cons_zero, List.set_cons_succ])
    refine wpAnyH_done (by kernel_rfl) ?_ _
    refine NoPanic.normal ?_
    have HBE := Lib.hid hHeld
    clear hHeld
    go_wp2_with fail
    go_ret
    exact ⟨_, rfl, o91.base (by simp), HBE.out⟩
end
end Go.Proofs.Ytcgkfbjdlhapkaa
