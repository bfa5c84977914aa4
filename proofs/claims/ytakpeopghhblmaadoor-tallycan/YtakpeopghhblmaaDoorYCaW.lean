/- The walk of TallyCan. -/
import Derived.Test.YtakpeopghhblmaaDoorYW
namespace Go.Proofs.YtakpeopghhblmaaDoor
open Go.RowKit Go.Lib

set_option maxRecDepth 100000 in
set_option maxHeartbeats 1000000 in
theorem can_walk (t : Tl) (hok : t.Ok) (w : World) (hT : Tab64 w) : Calls Tryd.prog 5 #[tlv t] w fun e w' => e = .returned (.bool true) ∧ Calm w w' := by
  have C1 := fun w' (h : Calm w w') => hide (can_any t w' (fun _ => hT.calm h))
  have C2 := fun w => hide (rcan_any t hok w)
  have C3 := fun w => hide (works_any w)
  generalize canT t = b at *
  go_enter Tryd.func5, Tryd.ntmps5
  go_wp2_with fail
  have A := al_new w (.cells (tlc t) 24)
  have T0 : Calm w (w.alloc (.cells (tlc t) 24)) := (Touch.refl _ _).alloc _
  generalize (w.alloc (.cells (tlc t) 24)) = w1 at *
  generalize w.heap.size = B at *
  refine wp_region_held (S := Calm w1) (by kernel_rfl) ?_
  have hT0 : Calm w1 { w1 with drawn := w1.drawn + 1 } := (Touch.refl (fun _ => False) w1).drew
  refine wpAnyH_yield 0 3 (tlv t) rfl rfl (by kernel_rfl) (by kernel_rfl) (by kernel_rfl) (fun _ _ _ h => h) (by kernel_rfl) (fun W hW => by obtain ⟨c0, c1, c2, c3⟩ := tl_cells (hW.at A); go_simp) (by assumption) rfl rfl ?_
  simp only [Act.put, List.setIfInBounds_toArray, List.set_cons_zero, List.set_cons_succ]
  refine wpAnyH_yield 2 5 (tlv t) rfl rfl (by kernel_rfl) (by kernel_rfl) (by kernel_rfl) (fun _ _ _ h => h) (by kernel_rfl) (fun W hW => by obtain ⟨c0, c1, c2, c3⟩ := tl_cells (hW.at A); go_simp) (by assumption) rfl rfl ?_
  simp only [Act.put, List.setIfInBounds_toArray, List.set_cons_zero, List.set_cons_succ]
  refine wpAnyH_enter 1 4 18 #[tlv t] rfl rfl (by kernel_rfl) (by kernel_rfl) (by kernel_rfl) ?_
  refine ((C1 _ (T0.tr hT0)).out).mono ?_
  rintro r w2 ⟨rfl, T2⟩
  have h2 := hT0.tr T2
  refine ⟨_, rfl, h2, ?_⟩
  simp only [Act.put, List.setIfInBounds_toArray, List.set_cons_zero, List.set_cons_succ]
  refine wpAnyH_enter 3 6 19 #[tlv t] rfl rfl (by kernel_rfl) (by kernel_rfl) (by kernel_rfl) ?_
  refine ((C2 _).out).mono ?_
  rintro r w3 ⟨rfl, T3⟩
  have h3 := h2.tr T3
  refine ⟨_, rfl, h3, ?_⟩
  simp only [Act.put, List.setIfInBounds_toArray, List.set_cons_zero, List.set_cons_succ]
  refine wpAnyH_yield 4 7 (.bool true) rfl rfl (by kernel_rfl) (by kernel_rfl) (by kernel_rfl) (fun _ _ _ h => h) (by kernel_rfl) (fun W hW => by go_simp) (by assumption) rfl rfl ?_
  simp only [Act.put, List.setIfInBounds_toArray, List.set_cons_zero, List.set_cons_succ]
  refine wpAnyH_yield 5 8 (.bool true) rfl rfl (by kernel_rfl) (by kernel_rfl) (by kernel_rfl) (fun _ _ _ h => h) (by kernel_rfl) (fun W hW => by kernel_rfl) (by assumption) rfl rfl ?_
  simp only [Act.put, List.setIfInBounds_toArray, List.set_cons_zero, List.set_cons_succ]
  refine wpAnyH_enter 6 9 15 #[] rfl rfl (by kernel_rfl) (by kernel_rfl) (by kernel_rfl) ?_
  refine ((C3 _).out).mono ?_
  rintro r w4 ⟨rfl, T4⟩
  have h4 := h3.tr T4
  refine ⟨_, rfl, h4, ?_⟩
  simp only [Act.put, List.setIfInBounds_toArray, List.set_cons_zero, List.set_cons_succ]
  refine wpAnyH_yield 7 10 (.bool true) rfl rfl (by kernel_rfl) (by kernel_rfl) (by kernel_rfl) (fun _ _ _ h => h) (by kernel_rfl) (fun W hW => by kernel_rfl) (by assumption) rfl rfl ?_
  simp only [Act.put, List.setIfInBounds_toArray, List.set_cons_zero, List.set_cons_succ]
  refine wpAnyH_yield 8 2 (.bool true) rfl rfl (by kernel_rfl) (by kernel_rfl) (by kernel_rfl) (fun _ _ _ h => h) (by kernel_rfl) (fun W hW => by kernel_rfl) (by assumption) rfl rfl ?_
  simp only [Act.put, List.setIfInBounds_toArray, List.set_cons_zero, List.set_cons_succ]
  refine wpAnyH_done (by kernel_rfl) ?_ _
  have T9 := hide (T0.tr h4)
  clear T0 hT0 h2 h3 h4 T2 T3 T4 A
  go_wp2_with fail
  go_ret
  exact ⟨rfl, T9.out⟩

end Go.Proofs.YtakpeopghhblmaaDoor
