/- TimersOrder, walked. -/
import Derived.Test.YtghahcggaiblnaaTKnow
namespace Go.Proofs.Ytghahcggaiblnaa
open Go.RowKit

set_option maxRecDepth 100000 in
set_option maxHeartbeats 1000000 in
theorem order_any (a b : Tm) (w : World) : Calls Try.prog 4 #[tv a, tv b] w fun e w' => e = .returned (.bool true) ∧ Calm w w' := by
  go_enter Try.func4, Try.ntmps4
  go_wp2_with fail
  have hA : (two w a b).heap[w.heap.size]? = some (.cells (tc a) 35 (0, 0)) := (Below.heap_alloc _ _ _ (by simp)).trans (heap_alloc_last w _)
  have hB : (two w a b).heap[w.heap.size + 1]? = some (.cells (tc b) 35 (0, 0)) := by
    have := heap_alloc_last (w.alloc (.cells (tc a) 35)) (.cells (tc b) 35)
    simpa using this
  have HA := hide hA
  have HB := hide hB
  have T0 : Hid (Calm w (two w a b)) := hide (((Touch.refl _ _).alloc _).alloc _)
  clear hA hB
  obtain ⟨W0, eW0⟩ : ∃ W0, W0 = (w.alloc (.cells #[.int .i64 a.at_, .string a.key, .int .i64 a.start, .int .i64 a.stop] 35)).alloc (.cells #[.int .i64 b.at_, .string b.key, .int .i64 b.start, .int .i64 b.stop] 35) := ⟨_, rfl⟩
  change Hid (((w.alloc (.cells #[.int .i64 a.at_, .string a.key, .int .i64 a.start, .int .i64 a.stop] 35)).alloc (.cells #[.int .i64 b.at_, .string b.key, .int .i64 b.start, .int .i64 b.stop] 35)).heap[w.heap.size]? = _) at HA
  change Hid (((w.alloc (.cells #[.int .i64 a.at_, .string a.key, .int .i64 a.start, .int .i64 a.stop] 35)).alloc (.cells #[.int .i64 b.at_, .string b.key, .int .i64 b.start, .int .i64 b.stop] 35)).heap[w.heap.size + 1]? = _) at HB
  change Hid (Calm w ((w.alloc (.cells #[.int .i64 a.at_, .string a.key, .int .i64 a.start, .int .i64 a.stop] 35)).alloc (.cells #[.int .i64 b.at_, .string b.key, .int .i64 b.start, .int .i64 b.stop] 35))) at T0
  rw [← eW0] at HA HB T0 ⊢
  clear eW0
  generalize w.heap.size + 1 = AB at *
  generalize w.heap.size = AA at *
  refine wp_only ?_
  refine wp_region_held (S := Calm W0) (by kernel_rfl) ?_
  have ty0 : Calm W0 { W0 with drawn := W0.drawn + 1 } := (Touch.refl (fun _ => False) W0).drew
  refine wpAnyH_yield 0 5 (tv a) rfl rfl (by kernel_rfl) (by kernel_rfl) (by kernel_rfl) (fun _ _ _ h => h) (by kernel_rfl) (fun W hW => by obtain ⟨⟨c0, c1, c2, c3⟩, -⟩ := cells4 (hW.at HA.out); go_simp) (by assumption) rfl rfl ?_
  simp only [Act.put, List.setIfInBounds_toArray, List.set_cons_zero, List.set_cons_succ]
  refine wpAnyH_yield 1 6 (tv b) rfl rfl (by kernel_rfl) (by kernel_rfl) (by kernel_rfl) (fun _ _ _ h => h) (by kernel_rfl) (fun W hW => by obtain ⟨⟨c0, c1, c2, c3⟩, -⟩ := cells4 (hW.at HB.out); go_simp) (by assumption) rfl rfl ?_
  simp only [Act.put, List.setIfInBounds_toArray, List.set_cons_zero, List.set_cons_succ]
  refine wpAnyH_yield 3 8 (tv a) rfl rfl (by kernel_rfl) (by kernel_rfl) (by kernel_rfl) (fun _ _ _ h => h) (by kernel_rfl) (fun W hW => by obtain ⟨⟨c0, c1, c2, c3⟩, -⟩ := cells4 (hW.at HA.out); go_simp) (by assumption) rfl rfl ?_
  simp only [Act.put, List.setIfInBounds_toArray, List.set_cons_zero, List.set_cons_succ]
  refine wpAnyH_yield 4 9 (tv b) rfl rfl (by kernel_rfl) (by kernel_rfl) (by kernel_rfl) (fun _ _ _ h => h) (by kernel_rfl) (fun W hW => by obtain ⟨⟨c0, c1, c2, c3⟩, -⟩ := cells4 (hW.at HB.out); go_simp) (by assumption) rfl rfl ?_
  simp only [Act.put, List.setIfInBounds_toArray, List.set_cons_zero, List.set_cons_succ]
  refine wpAnyH_enter 2 7 16 #[tv a, tv b] rfl rfl (by kernel_rfl) (by kernel_rfl) (by kernel_rfl) ?_
  refine (compareT_any _ _ _).mono ?_
  rintro e y1 ⟨rfl, hy1⟩
  have ty1 : Calm W0 y1 := by rw [hy1]; exact (ty0.alloc _).alloc _
  clear hy1
  refine ⟨_, rfl, ty1, ?_⟩
  simp only [Act.put, List.setIfInBounds_toArray, List.set_cons_zero, List.set_cons_succ]
  refine wpAnyH_enter 5 10 17 #[tv a, tv b] rfl rfl (by kernel_rfl) (by kernel_rfl) (by kernel_rfl) ?_
  refine (rcompare_any _ _ _).mono ?_
  rintro e y2 ⟨rfl, hy2⟩
  have ty2 : Calm W0 y2 := by rw [hy2]; exact (ty1.alloc _).alloc _
  clear hy2
  refine ⟨_, rfl, ty2, ?_⟩
  simp only [Act.put, List.setIfInBounds_toArray, List.set_cons_zero, List.set_cons_succ]
  refine wpAnyH_yield 6 11 (.bool true) rfl rfl (by kernel_rfl) (by kernel_rfl) (by kernel_rfl) (fun _ _ _ h => h) (by kernel_rfl) (fun W hW => by go_simp) (by assumption) rfl rfl ?_
  simp only [Act.put, List.setIfInBounds_toArray, List.set_cons_zero, List.set_cons_succ]
  refine wpAnyH_yield 7 12 (.bool true) rfl rfl (by kernel_rfl) (by kernel_rfl) (by kernel_rfl) (fun _ _ _ h => h) (by kernel_rfl) (fun W hW => by kernel_rfl) (by assumption) rfl rfl ?_
  simp only [Act.put, List.setIfInBounds_toArray, List.set_cons_zero, List.set_cons_succ]
  refine wpAnyH_yield 8 13 (tv b) rfl rfl (by kernel_rfl) (by kernel_rfl) (by kernel_rfl) (fun _ _ _ h => h) (by kernel_rfl) (fun W hW => by obtain ⟨⟨c0, c1, c2, c3⟩, -⟩ := cells4 (hW.at HB.out); go_simp) (by assumption) rfl rfl ?_
  simp only [Act.put, List.setIfInBounds_toArray, List.set_cons_zero, List.set_cons_succ]
  refine wpAnyH_yield 9 14 (tv a) rfl rfl (by kernel_rfl) (by kernel_rfl) (by kernel_rfl) (fun _ _ _ h => h) (by kernel_rfl) (fun W hW => by obtain ⟨⟨c0, c1, c2, c3⟩, -⟩ := cells4 (hW.at HA.out); go_simp) (by assumption) rfl rfl ?_
  simp only [Act.put, List.setIfInBounds_toArray, List.set_cons_zero, List.set_cons_succ]
  refine wpAnyH_yield 11 16 (tv b) rfl rfl (by kernel_rfl) (by kernel_rfl) (by kernel_rfl) (fun _ _ _ h => h) (by kernel_rfl) (fun W hW => by obtain ⟨⟨c0, c1, c2, c3⟩, -⟩ := cells4 (hW.at HB.out); go_simp) (by assumption) rfl rfl ?_
  simp only [Act.put, List.setIfInBounds_toArray, List.set_cons_zero, List.set_cons_succ]
  refine wpAnyH_yield 12 17 (tv a) rfl rfl (by kernel_rfl) (by kernel_rfl) (by kernel_rfl) (fun _ _ _ h => h) (by kernel_rfl) (fun W hW => by obtain ⟨⟨c0, c1, c2, c3⟩, -⟩ := cells4 (hW.at HA.out); go_simp) (by assumption) rfl rfl ?_
  simp only [Act.put, List.setIfInBounds_toArray, List.set_cons_zero, List.set_cons_succ]
  refine wpAnyH_enter 10 15 16 #[tv b, tv a] rfl rfl (by kernel_rfl) (by kernel_rfl) (by kernel_rfl) ?_
  refine (compareT_any _ _ _).mono ?_
  rintro e y3 ⟨rfl, hy3⟩
  have ty3 : Calm W0 y3 := by rw [hy3]; exact (ty2.alloc _).alloc _
  clear hy3
  refine ⟨_, rfl, ty3, ?_⟩
  simp only [Act.put, List.setIfInBounds_toArray, List.set_cons_zero, List.set_cons_succ]
  refine wpAnyH_enter 13 18 17 #[tv b, tv a] rfl rfl (by kernel_rfl) (by kernel_rfl) (by kernel_rfl) ?_
  refine (rcompare_any _ _ _).mono ?_
  rintro e y4 ⟨rfl, hy4⟩
  have ty4 : Calm W0 y4 := by rw [hy4]; exact (ty3.alloc _).alloc _
  clear hy4
  refine ⟨_, rfl, ty4, ?_⟩
  simp only [Act.put, List.setIfInBounds_toArray, List.set_cons_zero, List.set_cons_succ]
  refine wpAnyH_yield 14 19 (.bool true) rfl rfl (by kernel_rfl) (by kernel_rfl) (by kernel_rfl) (fun _ _ _ h => h) (by kernel_rfl) (fun W hW => by go_simp) (by assumption) rfl rfl ?_
  simp only [Act.put, List.setIfInBounds_toArray, List.set_cons_zero, List.set_cons_succ]
  refine wpAnyH_yield 15 20 (.bool true) rfl rfl (by kernel_rfl) (by kernel_rfl) (by kernel_rfl) (fun _ _ _ h => h) (by kernel_rfl) (fun W hW => by kernel_rfl) (by assumption) rfl rfl ?_
  simp only [Act.put, List.setIfInBounds_toArray, List.set_cons_zero, List.set_cons_succ]
  refine wpAnyH_yield 16 21 (.bool true) rfl rfl (by kernel_rfl) (by kernel_rfl) (by kernel_rfl) (fun _ _ _ h => h) (by kernel_rfl) (fun W hW => by kernel_rfl) (by assumption) rfl rfl ?_
  simp only [Act.put, List.setIfInBounds_toArray, List.set_cons_zero, List.set_cons_succ]
  refine wpAnyH_yield 17 22 (tv a) rfl rfl (by kernel_rfl) (by kernel_rfl) (by kernel_rfl) (fun _ _ _ h => h) (by kernel_rfl) (fun W hW => by obtain ⟨⟨c0, c1, c2, c3⟩, -⟩ := cells4 (hW.at HA.out); go_simp) (by assumption) rfl rfl ?_
  simp only [Act.put, List.setIfInBounds_toArray, List.set_cons_zero, List.set_cons_succ]
  refine wpAnyH_yield 18 23 (tv a) rfl rfl (by kernel_rfl) (by kernel_rfl) (by kernel_rfl) (fun _ _ _ h => h) (by kernel_rfl) (fun W hW => by obtain ⟨⟨c0, c1, c2, c3⟩, -⟩ := cells4 (hW.at HA.out); go_simp) (by assumption) rfl rfl ?_
  simp only [Act.put, List.setIfInBounds_toArray, List.set_cons_zero, List.set_cons_succ]
  refine wpAnyH_enter 19 24 16 #[tv a, tv a] rfl rfl (by kernel_rfl) (by kernel_rfl) (by kernel_rfl) ?_
  refine (compareT_any _ _ _).mono ?_
  rintro e y5 ⟨rfl, hy5⟩
  have ty5 : Calm W0 y5 := by rw [hy5]; exact (ty4.alloc _).alloc _
  clear hy5
  refine ⟨_, rfl, ty5, ?_⟩
  simp only [Act.put, List.setIfInBounds_toArray, List.set_cons_zero, List.set_cons_succ]
  refine wpAnyH_yield 20 25 (.bool true) rfl rfl (by kernel_rfl) (by kernel_rfl) (by kernel_rfl) (fun _ _ _ h => h) (by kernel_rfl) (fun W hW => by have h0 : cmpT a a = 0 := cmpT_eq.2 rfl; go_simp) (by assumption) rfl rfl ?_
  simp only [Act.put, List.setIfInBounds_toArray, List.set_cons_zero, List.set_cons_succ]
  refine wpAnyH_yield 21 26 (.bool true) rfl rfl (by kernel_rfl) (by kernel_rfl) (by kernel_rfl) (fun _ _ _ h => h) (by kernel_rfl) (fun W hW => by kernel_rfl) (by assumption) rfl rfl ?_
  simp only [Act.put, List.setIfInBounds_toArray, List.set_cons_zero, List.set_cons_succ]
  refine wpAnyH_yield 22 27 (.bool true) rfl rfl (by kernel_rfl) (by kernel_rfl) (by kernel_rfl) (fun _ _ _ h => h) (by kernel_rfl) (fun W hW => by kernel_rfl) (by assumption) rfl rfl ?_
  simp only [Act.put, List.setIfInBounds_toArray, List.set_cons_zero, List.set_cons_succ]
  refine wpAnyH_enter 23 28 15 #[] rfl rfl (by kernel_rfl) (by kernel_rfl) (by kernel_rfl) ?_
  refine (known_any _).mono ?_
  rintro e y6 ⟨rfl, h6⟩
  have ty6 : Calm W0 y6 := ty5.tr h6
  refine ⟨_, rfl, ty6, ?_⟩
  simp only [Act.put, List.setIfInBounds_toArray, List.set_cons_zero, List.set_cons_succ]
  refine wpAnyH_yield 24 29 (.bool true) rfl rfl (by kernel_rfl) (by kernel_rfl) (by kernel_rfl) (fun _ _ _ h => h) (by kernel_rfl) (fun W hW => by kernel_rfl) (by assumption) rfl rfl ?_
  simp only [Act.put, List.setIfInBounds_toArray, List.set_cons_zero, List.set_cons_succ]
  refine wpAnyH_yield 25 4 (.bool true) rfl rfl (by kernel_rfl) (by kernel_rfl) (by kernel_rfl) (fun _ _ _ h => h) (by kernel_rfl) (fun W hW => by kernel_rfl) (by assumption) rfl rfl ?_
  simp only [Act.put, List.setIfInBounds_toArray, List.set_cons_zero, List.set_cons_succ]
  refine wpAnyH_done (by kernel_rfl) ?_ _
  rw [onlyN_normal]
  have T9 := hide (T0.out.tr ty6)
  clear ty0 ty1 ty2 ty3 ty4 ty5 ty6 h6
  go_wp2_with fail
  go_ret
  exact ⟨rfl, T9.out⟩

end Go.Proofs.Ytghahcggaiblnaa
