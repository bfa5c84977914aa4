/- The walk of ConfigItems. -/
import Derived.Test.YtjambfncemlenaaDoorEI
import Derived.Test.YtjambfncemlenaaDoorEK
namespace Go.Proofs.YtjambfncemlenaaDoor
open Go.RowKit

set_option maxRecDepth 100000 in
set_option maxHeartbeats 1000000 in
theorem items_walk (c : Cf) (x : It) (w : World) (ht : Tab w) (hw : Words w gW) : Calls Tryd.prog 6 #[cfv c, itv x] w fun e w' => e = .returned (.bool true) ∧ Calm w w' := by
  have CN := fun x w => hide (num_any x w)
  have CW : Hid (∀ W, Calm w W → Calls Tryd.prog 12 #[] W fun e w' => e = .returned (.bool true) ∧ Calm W w') := hide fun W hW => works_any W (ht.calm hW) (hw.calm hW)
  have CI := fun w => hide (item_any c x w)
  have CR := fun w => hide (ritem_any c x w)
  have A0 := al_old (al_new w (.cells (cfc c) 24)) (.cells (itc x) 49)
  have A1 := al_new (w.alloc (.cells (cfc c) 24)) (.cells (itc x) 49)
  rw [al_size] at A1
  have HA0 := hide A0
  have HA1 := hide A1
  have T0 := hide (((Touch.refl (fun _ => False) w).alloc (.cells (cfc c) 24)).alloc (.cells (itc x) 49))
  clear ht hw A0 A1
  generalize ((itemN c x : Nat) : Int) = N at *
  go_enter Tryd.func6, Tryd.ntmps6
  go_wp2_with fail
  generalize (w.alloc (.cells (cfc c) 24)).alloc (.cells (itc x) 49) = w0 at *
  generalize w.heap.size = A at *
  have GC : Hid (∀ W, Calm w0 W → W.heap[A]? = some (.cells (cfc c) 24 (0, 0)) ∧ W.heap[A + 1]? = some (.cells (itc x) 49 (0, 0))) := hide fun W hW => ⟨hW.at HA0.out, hW.at HA1.out⟩
  refine wp_region_held (S := Calm w0) (by kernel_rfl) ?_
  have hT0 : Calm w0 { w0 with drawn := w0.drawn + 1 } := (Touch.refl _ w0).drew
  refine wpAnyH_yield 0 5 (cfv c) rfl rfl (by kernel_rfl) (by kernel_rfl) (by kernel_rfl) (fun _ _ _ h => h) (by kernel_rfl) (fun W hW => by obtain ⟨⟨g0, g1, g2, g3, g4, g5, g6⟩, g7, g8, g9⟩ := cf_cells (GC.out W hW).1; go_simp) (by assumption) rfl rfl ?_
  simp only [Act.put, List.setIfInBounds_toArray, List.set_cons_zero, List.set_cons_succ]
  refine wpAnyH_yield 1 6 (itv x) rfl rfl (by kernel_rfl) (by kernel_rfl) (by kernel_rfl) (fun _ _ _ h => h) (by kernel_rfl) (fun W hW => by obtain ⟨c0, c1, c2, c3, c4⟩ := it_cells (GC.out W hW).2; go_simp) (by assumption) rfl rfl ?_
  simp only [Act.put, List.setIfInBounds_toArray, List.set_cons_zero, List.set_cons_succ]
  refine wpAnyH_yield 4 9 (cfv c) rfl rfl (by kernel_rfl) (by kernel_rfl) (by kernel_rfl) (fun _ _ _ h => h) (by kernel_rfl) (fun W hW => by obtain ⟨⟨g0, g1, g2, g3, g4, g5, g6⟩, g7, g8, g9⟩ := cf_cells (GC.out W hW).1; go_simp) (by assumption) rfl rfl ?_
  simp only [Act.put, List.setIfInBounds_toArray, List.set_cons_zero, List.set_cons_succ]
  refine wpAnyH_yield 5 10 (itv x) rfl rfl (by kernel_rfl) (by kernel_rfl) (by kernel_rfl) (fun _ _ _ h => h) (by kernel_rfl) (fun W hW => by obtain ⟨c0, c1, c2, c3, c4⟩ := it_cells (GC.out W hW).2; go_simp) (by assumption) rfl rfl ?_
  simp only [Act.put, List.setIfInBounds_toArray, List.set_cons_zero, List.set_cons_succ]
  refine wpAnyH_enter 2 7 19 #[cfv c, itv x] rfl rfl (by kernel_rfl) (by kernel_rfl) (by kernel_rfl) ?_
  refine (CI _).out.mono ?_
  rintro rr w1 ⟨rfl, T1⟩
  have h1 := hT0.tr T1
  refine ⟨_, rfl, h1, ?_⟩
  simp only [Act.put, List.setIfInBounds_toArray, List.set_cons_zero, List.set_cons_succ]
  refine wpAnyH_enter 3 8 10 #[.int .i64 N] rfl rfl (by kernel_rfl) (by kernel_rfl) (by kernel_rfl) ?_
  refine (CN _ _).out.mono ?_
  rintro rr w2 ⟨rfl, rfl⟩
  refine ⟨_, rfl, h1, ?_⟩
  simp only [Act.put, List.setIfInBounds_toArray, List.set_cons_zero, List.set_cons_succ]
  refine wpAnyH_enter 6 11 20 #[cfv c, itv x] rfl rfl (by kernel_rfl) (by kernel_rfl) (by kernel_rfl) ?_
  refine (CR _).out.mono ?_
  rintro rr w3 ⟨rfl, T3⟩
  have h3 := h1.tr T3
  refine ⟨_, rfl, h3, ?_⟩
  simp only [Act.put, List.setIfInBounds_toArray, List.set_cons_zero, List.set_cons_succ]
  refine wpAnyH_yield 7 12 (.bool true) rfl rfl (by kernel_rfl) (by kernel_rfl) (by kernel_rfl) (fun _ _ _ h => h) (by kernel_rfl) (fun W hW => by go_simp) (by assumption) rfl rfl ?_
  simp only [Act.put, List.setIfInBounds_toArray, List.set_cons_zero, List.set_cons_succ]
  refine wpAnyH_yield 8 13 (.bool true) rfl rfl (by kernel_rfl) (by kernel_rfl) (by kernel_rfl) (fun _ _ _ h => h) (by kernel_rfl) (fun W hW => by kernel_rfl) (by assumption) rfl rfl ?_
  simp only [Act.put, List.setIfInBounds_toArray, List.set_cons_zero, List.set_cons_succ]
  refine wpAnyH_enter 9 14 12 #[] rfl rfl (by kernel_rfl) (by kernel_rfl) (by kernel_rfl) ?_
  refine (CW.out _ (T0.out.tr h3)).mono ?_
  rintro rr w4 ⟨rfl, T4⟩
  have h4 := h3.tr T4
  refine ⟨_, rfl, h4, ?_⟩
  simp only [Act.put, List.setIfInBounds_toArray, List.set_cons_zero, List.set_cons_succ]
  refine wpAnyH_yield 10 15 (.bool true) rfl rfl (by kernel_rfl) (by kernel_rfl) (by kernel_rfl) (fun _ _ _ h => h) (by kernel_rfl) (fun W hW => by go_simp) (by assumption) rfl rfl ?_
  simp only [Act.put, List.setIfInBounds_toArray, List.set_cons_zero, List.set_cons_succ]
  refine wpAnyH_yield 11 4 (.bool true) rfl rfl (by kernel_rfl) (by kernel_rfl) (by kernel_rfl) (fun _ _ _ h => h) (by kernel_rfl) (fun W hW => by kernel_rfl) (by assumption) rfl rfl ?_
  simp only [Act.put, List.setIfInBounds_toArray, List.set_cons_zero, List.set_cons_succ]
  refine wpAnyH_done (by kernel_rfl) ?_ _
  have HT := hide (T0.out.tr h4)
  clear hT0 T1 h1 T3 h3 T4 h4 GC CI CR CW CN HA0 HA1 T0
  go_wp2_with fail
  go_ret
  exact ⟨rfl, HT.out⟩

end Go.Proofs.YtjambfncemlenaaDoor
