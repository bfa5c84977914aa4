/- The document's router: Copy. -/
import Derived.Test.YtapnjofplilefaaGreatZB
namespace Go.Proofs.YtapnjofplilefaaGreat
open Go.RowKit

set_option maxRecDepth 100000 in
set_option maxHeartbeats 1000000 in
theorem rcopyZ_any {w : World} {q : Nat} {F : Nat → Prop} {c : Cf} {wr s : Int} {L : List Int} (h : Rr w q F c wr L s) : Calls Tryz.prog 24 #[rp q] w fun e w' => ∃ q', e = .returned (rp q') ∧ w.heap.size ≤ q' ∧ Rr w' q' (fun g => w.heap.size ≤ g ∧ g < w'.heap.size) c wr L s ∧ Calm w w' := by
  obtain ⟨lo, lc, cq, o1, -⟩ := h.ex
  have hl := h.len
  have s1 := Rc.Own.sl o1
  have KQ : Hid (∀ W, Calm w W → W.heap[q]? = some (.cells (rrc c wr (.slice lo L.length lc) s) 53 (0, 0))) := hide fun W hW => hW.at cq
  have C1 : Hid (∀ W, Calm w W → ∃ a1 p1 w1, (Builtin.append_ #[49, 49] 49 #[.slice none 0 0, .slice lo L.length lc]).run Tryz.prog W = .ok (.slice a1 L.length p1) w1 ∧ encJ.Own 2 w1 W.heap.size (.slice a1 L.length p1) L ∧ Calm W w1) := hide fun W hW => jn_copy (Rc.Sl.calm s1 hW) (by omega)
  have FIN : Hid (∀ W a1 p1, Calm w W → encJ.Own 2 W w.heap.size (.slice a1 L.length p1) L → w.heap.size ≤ W.heap.size ∧ Rr (W.alloc (.cells (rrc c wr (.slice a1 L.length p1) s) 53)) W.heap.size (fun g => w.heap.size ≤ g ∧ g < (W.alloc (.cells (rrc c wr (.slice a1 L.length p1) s) 53)).heap.size) c wr L s ∧ Calm w (W.alloc (.cells (rrc c wr (.slice a1 L.length p1) s) 53))) := hide fun W a1 p1 hW o1 => by
    have T := (Touch.refl (fun _ => False) W).alloc (.cells (rrc c wr (.slice a1 L.length p1) s) 53)
    have sz := al_size W (.cells (rrc c wr (.slice a1 L.length p1) s) 53)
    have hs := hW.size
    refine ⟨hs, ⟨⟨a1, p1, al_new _ _, Rc.Own.base (Rc.Own.calm o1 T) (Nat.zero_le _), fun g hg => ?_⟩, ⟨hs, by omega⟩, fun g hg => hg.2, h.ne, h.len⟩, hW.tr T⟩
    have := own_lt o1 hg; exact ⟨this.1, by omega⟩
  clear h cq o1 hl s1
  generalize L.length = n at *
  go_enter Tryz.func24, Tryz.ntmps24
  go_wp2_with fail
  refine wp_region_held (S := Calm w) (by kernel_rfl) ?_
  have hT0 : Calm w { w with drawn := w.drawn + 1 } := (Touch.refl _ w).drew
  refine wpAnyH_yield 0 3 (.pointer (some ⟨q, 0, none⟩)) rfl rfl (by kernel_rfl) (by kernel_rfl) (by kernel_rfl) (fun _ _ _ h => h) (by kernel_rfl) (fun W hW => by kernel_rfl) (by assumption) rfl rfl ?_
  simp only [Act.put, List.setIfInBounds_toArray, List.set_cons_zero, List.set_cons_succ]
  refine wpAnyH_yield 1 4 (.pointer (some ⟨q, 0, none⟩)) rfl rfl (by kernel_rfl) (by kernel_rfl) (by kernel_rfl) (fun _ _ _ h => h) (by kernel_rfl) (fun W hW => by go_simp) (by assumption) rfl rfl ?_
  simp only [Act.put, List.setIfInBounds_toArray, List.set_cons_zero, List.set_cons_succ]
  refine wpAnyH_yield 2 5 (.pointer (some ⟨q, 0, none⟩)) rfl rfl (by kernel_rfl) (by kernel_rfl) (by kernel_rfl) (fun _ _ _ h => h) (by kernel_rfl) (fun W hW => by go_simp) (by assumption) rfl rfl ?_
  simp only [Act.put, List.setIfInBounds_toArray, List.set_cons_zero, List.set_cons_succ]
  refine wpAnyH_yield 3 6 (cfv c) rfl rfl (by kernel_rfl) (by kernel_rfl) (by kernel_rfl) (fun _ _ _ h => h) (by kernel_rfl) (fun W hW => by obtain ⟨⟨k0, k1, k2, k3, k4, k5, k6, k7, k8, k9⟩, -⟩ := rr_cells (KQ.out W hW); go_simp) (by assumption) rfl rfl ?_
  simp only [Act.put, List.setIfInBounds_toArray, List.set_cons_zero, List.set_cons_succ]
  refine wpAnyH_yield 4 7 (.pointer (some ⟨q, 0, none⟩)) rfl rfl (by kernel_rfl) (by kernel_rfl) (by kernel_rfl) (fun _ _ _ h => h) (by kernel_rfl) (fun W hW => by kernel_rfl) (by assumption) rfl rfl ?_
  simp only [Act.put, List.setIfInBounds_toArray, List.set_cons_zero, List.set_cons_succ]
  refine wpAnyH_yield 5 8 (.pointer (some ⟨q, 0, none⟩)) rfl rfl (by kernel_rfl) (by kernel_rfl) (by kernel_rfl) (fun _ _ _ h => h) (by kernel_rfl) (fun W hW => by go_simp) (by assumption) rfl rfl ?_
  simp only [Act.put, List.setIfInBounds_toArray, List.set_cons_zero, List.set_cons_succ]
  refine wpAnyH_yield 6 9 (.pointer (some ⟨q, 10, none⟩)) rfl rfl (by kernel_rfl) (by kernel_rfl) (by kernel_rfl) (fun _ _ _ h => h) (by kernel_rfl) (fun W hW => by go_simp) (by assumption) rfl rfl ?_
  simp only [Act.put, List.setIfInBounds_toArray, List.set_cons_zero, List.set_cons_succ]
  refine wpAnyH_yield 7 10 (.int .i64 wr) rfl rfl (by kernel_rfl) (by kernel_rfl) (by kernel_rfl) (fun _ _ _ h => h) (by kernel_rfl) (fun W hW => by obtain ⟨-, k0, -⟩ := rr_cells (KQ.out W hW); go_simp) (by assumption) rfl rfl ?_
  simp only [Act.put, List.setIfInBounds_toArray, List.set_cons_zero, List.set_cons_succ]
  refine wpAnyH_yield 8 11 (.pointer (some ⟨q, 0, none⟩)) rfl rfl (by kernel_rfl) (by kernel_rfl) (by kernel_rfl) (fun _ _ _ h => h) (by kernel_rfl) (fun W hW => by kernel_rfl) (by assumption) rfl rfl ?_
  simp only [Act.put, List.setIfInBounds_toArray, List.set_cons_zero, List.set_cons_succ]
  refine wpAnyH_yield 9 12 (.pointer (some ⟨q, 0, none⟩)) rfl rfl (by kernel_rfl) (by kernel_rfl) (by kernel_rfl) (fun _ _ _ h => h) (by kernel_rfl) (fun W hW => by go_simp) (by assumption) rfl rfl ?_
  simp only [Act.put, List.setIfInBounds_toArray, List.set_cons_zero, List.set_cons_succ]
  refine wpAnyH_yield 10 13 (.pointer (some ⟨q, 11, none⟩)) rfl rfl (by kernel_rfl) (by kernel_rfl) (by kernel_rfl) (fun _ _ _ h => h) (by kernel_rfl) (fun W hW => by go_simp) (by assumption) rfl rfl ?_
  simp only [Act.put, List.setIfInBounds_toArray, List.set_cons_zero, List.set_cons_succ]
  refine wpAnyH_yield 11 14 (.slice lo n lc) rfl rfl (by kernel_rfl) (by kernel_rfl) (by kernel_rfl) (fun _ _ _ h => h) (by kernel_rfl) (fun W hW => by obtain ⟨-, -, k0, -⟩ := rr_cells (KQ.out W hW); go_simp) (by assumption) rfl rfl ?_
  simp only [Act.put, List.setIfInBounds_toArray, List.set_cons_zero, List.set_cons_succ]
  refine wpAnyH_yield 13 16 (.pointer (some ⟨q, 0, none⟩)) rfl rfl (by kernel_rfl) (by kernel_rfl) (by kernel_rfl) (fun _ _ _ h => h) (by kernel_rfl) (fun W hW => by kernel_rfl) (by assumption) rfl rfl ?_
  simp only [Act.put, List.setIfInBounds_toArray, List.set_cons_zero, List.set_cons_succ]
  refine wpAnyH_yield 14 17 (.pointer (some ⟨q, 0, none⟩)) rfl rfl (by kernel_rfl) (by kernel_rfl) (by kernel_rfl) (fun _ _ _ h => h) (by kernel_rfl) (fun W hW => by go_simp) (by assumption) rfl rfl ?_
  simp only [Act.put, List.setIfInBounds_toArray, List.set_cons_zero, List.set_cons_succ]
  refine wpAnyH_yield 15 18 (.pointer (some ⟨q, 12, none⟩)) rfl rfl (by kernel_rfl) (by kernel_rfl) (by kernel_rfl) (fun _ _ _ h => h) (by kernel_rfl) (fun W hW => by go_simp) (by assumption) rfl rfl ?_
  simp only [Act.put, List.setIfInBounds_toArray, List.set_cons_zero, List.set_cons_succ]
  refine wpAnyH_yield 16 19 (.int .i64 s) rfl rfl (by kernel_rfl) (by kernel_rfl) (by kernel_rfl) (fun _ _ _ h => h) (by kernel_rfl) (fun W hW => by obtain ⟨-, -, -, k0⟩ := rr_cells (KQ.out W hW); go_simp) (by assumption) rfl rfl ?_
  simp only [Act.put, List.setIfInBounds_toArray, List.set_cons_zero, List.set_cons_succ]
  obtain ⟨a1, p1, w1, hr1, o1, t1⟩ := C1.out _ hT0
  have h1 := hT0.tr t1
  refine wpAnyH_value 12 15 (.slice a1 n p1) (w' := w1) rfl rfl (by kernel_rfl) (by kernel_rfl) (exec_apk (.const (.slice none 0 0)) (.tmp 14) 49 49 rfl _ _ _ rfl rfl hr1) h1 ?_
  simp only [Act.put, List.setIfInBounds_toArray, List.set_cons_zero, List.set_cons_succ]
  refine wpAnyH_yield 17 20 (.agg (rrc c wr (.slice a1 n p1) s)) rfl rfl (by kernel_rfl) (by kernel_rfl) (by kernel_rfl) (fun _ _ _ h => h) (by kernel_rfl) (fun W hW => by go_simp) (by assumption) rfl rfl ?_
  simp only [Act.put, List.setIfInBounds_toArray, List.set_cons_zero, List.set_cons_succ]
  have HF := hide (FIN.out w1 a1 p1 h1 (Rc.Own.base o1 (Nat.le_refl _)))
  refine wpAnyH_value 18 21 (.pointer (some ⟨w1.heap.size, 0, none⟩)) (w' := w1.alloc (.cells (rrc c wr (.slice a1 n p1) s) 53)) rfl rfl (by kernel_rfl) (by kernel_rfl) (by go_simp) (h1.alloc _) ?_
  simp only [Act.put, List.setIfInBounds_toArray, List.set_cons_zero, List.set_cons_succ]
  have h3 : Calm w (w1.alloc (.cells (rrc c wr (.slice a1 n p1) s) 53)) := h1.alloc _
  refine wpAnyH_yield 19 2 (.pointer (some ⟨w1.heap.size, 0, none⟩)) rfl rfl (by kernel_rfl) (by kernel_rfl) (by kernel_rfl) (fun _ _ _ h => h) (by kernel_rfl) (fun W hW => by kernel_rfl) (by assumption) rfl rfl ?_
  simp only [Act.put, List.setIfInBounds_toArray, List.set_cons_zero, List.set_cons_succ]
  refine wpAnyH_done (by kernel_rfl) ?_ _
  clear hT0 hr1 o1 t1 h1 h3 C1 FIN KQ
  go_wp2_with fail
  go_ret
  exact ⟨w1.heap.size, rfl, HF.out⟩

end Go.Proofs.YtapnjofplilefaaGreat
