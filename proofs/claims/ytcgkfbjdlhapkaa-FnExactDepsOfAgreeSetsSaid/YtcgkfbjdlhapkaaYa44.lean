/- Texts of this claim, merged: PdE. Conditions: as stated. -/
import Derived.Test.YtcgkfbjdlhapkaaPdDm
import Derived.Test.YtcgkfbjdlhapkaaClPm
import Derived.Laws.StructEq
namespace Go.Proofs.Ytcgkfbjdlhapkaa
open Go.RowKit

section
set_option maxRecDepth 20000
set_option maxHeartbeats 3200000
theorem erase_wf {l : List (Int × Int)} (bd : ∀ d ∈ l, (Lit.int .i64 d.1).wf = true ∧ (Lit.int .i64 d.2).wf = true) (k : Nat) : ∀ d ∈ l.eraseIdx k, (Lit.int .i64 d.1).wf = true ∧ (Lit.int .i64 d.2).wf = true := fun d hd => bd d (List.mem_of_mem_eraseIdx hd)
theorem spareWhole_any (v : Value) (n : Int) (l : List (Int × Int)) (_w0 : (Lit.int .i64 n).wf = true) (bd : ∀ d ∈ l, (Lit.int .i64 d.1).wf = true ∧ (Lit.int .i64 d.2).wf = true) (k : Nat) (hk : k < l.length) (w : World) (hr : ReadD w v l) (hl : l.length ≤ 1000) (hcap : CapOk v) :
    Calls Try.prog 112 #[.int .i64 (k : Int), .int .i64 n, v] w fun e w' => e = .returned (.bool (impB n (l.eraseIdx k) (l.getD k (0, 0)))) ∧ Below w.heap.size w w' := by
  have HO := Lib.hid (fun w' (hb : Below w.heap.size w w') => others_any v k l w' (hr.kept hb) hl hk hcap)
  have hdw := bd _ (memD hk)
  have hel : (l.eraseIdx k).length ≤ 1048576 := by have := List.length_eraseIdx_le l k; omega
  have hbe := erase_wf bd k
  obtain ⟨⟨d0, d1⟩, hd⟩ : ∃ d, d = l.getD k (0, 0) := ⟨_, rfl⟩
  rw [← hd] at hdw ⊢
  obtain ⟨r, hre⟩ : ∃ r, r = l.eraseIdx k := ⟨_, rfl⟩
  rw [← hre] at hel hbe HO ⊢
  have HIM := Lib.hid (fun u w' (hu : ReadD w' u r) => implImpliesDep_any u n d0 d1 r _w0 hbe hdw.1 hdw.2 w' hu hel)
  obtain ⟨q, hq⟩ : ∃ q, q = impB n r (d0, d1) := ⟨_, rfl⟩
  rw [← hq] at HIM ⊢
  obtain ⟨a, cap, rfl, hc⟩ := hr
  obtain ⟨b, o, rfl, h0, h1⟩ := hc k hk
  rw [← hd] at h0 h1
  simp only at h0 h1
  have z0 : (0 : Int) ≤ (k : Int) := by omega
  have z1 : (k : Int) < (l.length : Int) := by omega
  clear hc hcap hd hre hq hdw hbe bd
  go_enter Try.func112, Try.ntmps112
  go_upto_region 1 with fail
  refine wp_region_noPanic ?_
  refine wp_region_held_drew (S := (fun w' => (w'.cell? ⟨b, o + k * 2, none⟩ = some (.int .i64 d0) ∧ w'.cell? ⟨b, o + k * 2 + 1, none⟩ = some (.int .i64 d1)) ∧ Below w.heap.size w w')) (by kernel_rfl) ?_ (fun hHeld => ?_)
  · ((try dsimp only); (first | exact ⟨⟨keep_in hHeld.1.1 b92, keep_in hHeld.1.2 b92⟩, hHeld.2.trans (b92.mono hHeld.2.size)⟩ | exact ⟨⟨keep_in hHeld.1.1 b91, keep_in hHeld.1.2 b91⟩, hHeld.2.trans (b91.mono hHeld.2.size)⟩ | exact ⟨⟨h0, h1⟩, (Below.refl _ _).drew⟩))
  refine wpAnyH_take (i := 0) (v := ?_) rfl (by kernel_rfl) (by kernel_rfl) (by kernel_rfl) (fun _ _ _ h => h) (Or.inl ⟨by rfl, ?_⟩) (by assumption) ?_
  rotate_left
  · (intro w hSw; (try dsimp only at hSw); go_simp; (try with_reducible rfl))
  (try simp only [Act.put, List.getElem_toArray, List.getElem_cons_zero, List.setIfInBounds_toArray, List.set_cons_zero, List.set_cons_succ])
  refine wpAnyH_take (i := 1) (v := ?_) rfl (by kernel_rfl) (by kernel_rfl) (by kernel_rfl) (fun _ _ _ h => h) (Or.inl ⟨by rfl, ?_⟩) (by assumption) ?_
  rotate_left
  · (intro w hSw; (try dsimp only at hSw); go_simp; (try with_reducible rfl))
  (try simp only [Act.put, List.getElem_toArray, List.getElem_cons_succ, List.getElem_cons_zero, List.setIfInBounds_toArray, List.set_cons_zero, List.set_cons_succ])
  refine wpAnyH_take (i := 2) (v := ?_) rfl (by kernel_rfl) (by kernel_rfl) (by kernel_rfl) (fun _ _ _ h => h) (Or.inl ⟨by rfl, ?_⟩) (by assumption) ?_
  rotate_left
  · (intro w hSw; (try dsimp only at hSw); go_simp; (try with_reducible rfl))
  (try simp only [Act.put, List.getElem_toArray, List.getElem_cons_succ, List.getElem_cons_zero, List.setIfInBounds_toArray, List.set_cons_zero, List.set_cons_succ])
  refine wpAnyH_take (i := 4) (v := ?_) rfl (by kernel_rfl) (by kernel_rfl) (by kernel_rfl) (fun _ _ _ h => h) (Or.inl ⟨by rfl, ?_⟩) (by assumption) ?_
  rotate_left
  · (intro w hSw; (try dsimp only at hSw); go_simp; (try with_reducible rfl))
  (try simp only [Act.put, List.getElem_toArray, List.getElem_cons_succ, List.getElem_cons_zero, List.setIfInBounds_toArray, List.set_cons_zero, List.set_cons_succ])
  refine wpAnyH_take (i := 5) (v := ?_) rfl (by kernel_rfl) (by kernel_rfl) (by kernel_rfl) (fun _ _ _ h => h) (Or.inl ⟨by rfl, ?_⟩) (by assumption) ?_
  rotate_left
  · (intro w hSw; (try dsimp only at hSw); go_simp; (try with_reducible rfl))
  (try simp only [Act.put, List.getElem_toArray, List.getElem_cons_succ, List.getElem_cons_zero, List.setIfInBounds_toArray, List.set_cons_zero, List.set_cons_succ])
  refine wpAnyH_take (i := 6) (v := ?_) rfl (by kernel_rfl) (by kernel_rfl) (by kernel_rfl) (fun _ _ _ h => h) (Or.inl ⟨by rfl, ?_⟩) (by assumption) ?_
  rotate_left
  · (intro w hSw; (try dsimp only at hSw); go_simp; (try with_reducible rfl))
  (try simp only [Act.put, List.getElem_toArray, List.getElem_cons_succ, List.getElem_cons_zero, List.setIfInBounds_toArray, List.set_cons_zero, List.set_cons_succ])
  refine wpAnyH_take (i := 7) (v := ?_) rfl (by kernel_rfl) (by kernel_rfl) (by kernel_rfl) (fun _ _ _ h => h) (Or.inl ⟨by rfl, ?_⟩) (by assumption) ?_
  rotate_left
  · (intro w hSw; (try dsimp only at hSw); go_simp; (try with_reducible rfl))
  (try simp only [Act.put, List.getElem_toArray, List.getElem_cons_succ, List.getElem_cons_zero, List.setIfInBounds_toArray, List.set_cons_zero, List.set_cons_succ])
  refine wpAnyH_ready (rs := [3]) (by kernel_rfl) (by simp) (AllReadyH.cons rfl (fun K hK => ?_) AllReadyH.nil)
  (first | ((first | (go_at_call 113; refine (HO.out _ hHeld.2).mono ?_; rintro e w91 ⟨v91, rfl, o91, b91⟩; have R91 := Lib.hid o91.read; clear o91) | (go_at_call 128; refine (HIM.out _ _ R91.out).mono ?_; rintro e w92 ⟨rfl, b92⟩))) | (go_simp; (first | (go_at_call 113; refine (HO.out _ hHeld.2).mono ?_; rintro e w91 ⟨v91, rfl, o91, b91⟩; have R91 := Lib.hid o91.read; clear o91) | (go_at_call 128; refine (HIM.out _ _ R91.out).mono ?_; rintro e w92 ⟨rfl, b92⟩))))
  (try (go_wp2_with fail))
  refine hK.out _ _ ?_ (fun hHeld => ?_)
  · ((try dsimp only); (first | exact ⟨⟨keep_in hHeld.1.1 b92, keep_in hHeld.1.2 b92⟩, hHeld.2.trans (b92.mono hHeld.2.size)⟩ | exact ⟨⟨keep_in hHeld.1.1 b91, keep_in hHeld.1.2 b91⟩, hHeld.2.trans (b91.mono hHeld.2.size)⟩ | exact ⟨⟨h0, h1⟩, (Below.refl _ _).drew⟩))
  clear hK K
  (try simp only [Act.put, List.getElem_toArray, List.getElem_cons_succ, List.getElem_cons_zero, List.setIfInBounds_toArray, List.set_cons_zero, List.set_cons_succ])
  refine wpAnyH_ready (rs := [8]) (by kernel_rfl) (by simp) (AllReadyH.cons rfl (fun K hK => ?_) AllReadyH.nil)
  (first | ((first | (go_at_call 113; refine (HO.out _ hHeld.2).mono ?_; rintro e w91 ⟨v91, rfl, o91, b91⟩; have R91 := Lib.hid o91.read; clear o91) | (go_at_call 128; refine (HIM.out _ _ R91.out).mono ?_; rintro e w92 ⟨rfl, b92⟩))) | (go_simp; (first | (go_at_call 113; refine (HO.out _ hHeld.2).mono ?_; rintro e w91 ⟨v91, rfl, o91, b91⟩; have R91 := Lib.hid o91.read; clear o91) | (go_at_call 128; refine (HIM.out _ _ R91.out).mono ?_; rintro e w92 ⟨rfl, b92⟩))))
  (try (go_wp2_with fail))
  refine hK.out _ _ ?_ (fun hHeld => ?_)
  · ((try dsimp only); (first | exact ⟨⟨keep_in hHeld.1.1 b92, keep_in hHeld.1.2 b92⟩, hHeld.2.trans (b92.mono hHeld.2.size)⟩ | exact ⟨⟨keep_in hHeld.1.1 b91, keep_in hHeld.1.2 b91⟩, hHeld.2.trans (b91.mono hHeld.2.size)⟩ | exact ⟨⟨h0, h1⟩, (Below.refl _ _).drew⟩))
  clear hK K
  (try simp only [Act.put, List.getElem_toArray, List.getElem_cons_succ, List.getElem_cons_zero, List.setIfInBounds_toArray, List.set_cons_zero, List.set_cons_succ])
  refine wpAnyH_take (i := 9) (v := ?_) rfl (by kernel_rfl) (by kernel_rfl) (by kernel_rfl) (fun _ _ _ h => h) (Or.inl ⟨by rfl, ?_⟩) (by assumption) ?_
  rotate_left
  · (intro w hSw; (try dsimp only at hSw); go_simp; (try with_reducible rfl))
  (try simp only [Act.put, List.getElem_toArray, List.getElem_cons_succ, List.getElem_cons_zero, List.setIfInBounds_toArray, List.set_cons_zero, List.set_cons_succ])
  refine wpAnyH_done (by kernel_rfl) ?_ _
  refine NoPanic.normal ?_
  have HBE := Lib.hid hHeld.2
  clear hHeld h0 h1
  go_wp2_with fail
  go_ret
  exact ⟨rfl, HBE.out⟩
end
end Go.Proofs.Ytcgkfbjdlhapkaa
