/- Tallies: how the program and the document put them together. -/
import Derived.Test.YtfmlbcddomggaaaYZ
namespace Go.Proofs.Ytfmlbcddomggaaa
open Go.RowKit

set_option maxRecDepth 100000 in
theorem isEmpty_any (t : Tl) (w : World) : Calls Try.prog 40 #[tlv t] w fun e w' => e = .returned (.bool (decide (t.c < 1))) ∧ w' = w.alloc (.cells (tlc t) 28) := by
  go_enter Try.func40, Try.ntmps40
  go_wp2_with fail
  go_ret
  exact ⟨rfl, rfl⟩

set_option maxRecDepth 100000 in
theorem counts_any (a b : Int) (ha : 0 ≤ a) (hb : 0 ≤ b) (w : World) : Calls Try.prog 41 #[.int .i64 a, .int .i64 b] w fun e w' => e = .returned (.int .i64 (cnt a b)) ∧ w' = w := by
  rw [← cnt_wrap ha hb]
  go_enter Try.func41, Try.ntmps41
  go_wp2_with fail
  go_ret
  exact ⟨rfl, rfl⟩

set_option maxRecDepth 100000 in
set_option maxHeartbeats 1000000 in
theorem put_pos (t u : Tl) (h : t.c < 1) (hu : 1 ≤ u.c) (w : World) : Calls Try.prog 37 #[tlv t, tlv u] w fun e w' => e = .returned (tlv (rawT ⟨0, 0, u.m, u.x⟩ u)) ∧ Calm w w' := by
  have E := fun w => hide (isEmpty_any t w)
  have C := fun w => hide (counts_any (Tl.c ⟨0, 0, u.m, u.x⟩) u.c (Int.le_refl 0) (by omega) w)
  go_enter Try.func37, Try.ntmps37
  go_wp2_with fail
  refine (E _).out.mono ?_
  rintro e w' ⟨rfl, hq⟩
  subst hq
  clear E
  go_wp2_with fail
  generalize hw : ((((w.alloc (Obj.cells (tlc ⟨0, 0, u.m, u.x⟩) 28)).alloc (Obj.cells (tlc u) 28)).alloc (Obj.cells (tlc ⟨0, 0, 0, 0⟩) 28)).alloc (Obj.cells (tlc t) 28)) = w1
  have T0 : Calm w w1 := by rw [← hw]; exact ((((Touch.refl (fun _ => False) w).alloc _).alloc _).alloc _).alloc _
  have A0 : w1.heap[w.heap.size]? = some (.cells (tlc ⟨0, 0, u.m, u.x⟩) 28 (0, 0)) := by rw [← hw]; exact al_old (al3 w _ _ _).1 _
  have A1 : w1.heap[w.heap.size + 1]? = some (.cells (tlc u) 28 (0, 0)) := by rw [← hw]; exact al_old (al3 w _ _ _).2.1 _
  have A2 : w1.heap[w.heap.size + 1 + 1]? = some (.cells (tlc ⟨0, 0, 0, 0⟩) 28 (0, 0)) := by rw [← hw]; exact al_old (al3 w _ _ _).2.2 _
  have HT0 := hide T0
  clear hw T0
  generalize hB : w.heap.size = B at *
  have HB := hide hB
  clear hB
  refine wp_region_z 21 (Calm w1) (by kernel_rfl) ?_
  have hT0 : Calm w1 { w1 with drawn := w1.drawn + 1 } := (Touch.refl (fun _ => False) w1).drew
  refine wpAnyZ_yield 0 12 (.pointer (some ⟨B, 0, none⟩)) [21] rfl rfl (by kernel_rfl) (by kernel_rfl) (by kernel_rfl) (by kernel_rfl) (by kernel_rfl) (fun _ _ _ h => h) (by kernel_rfl) (fun W hW => by go_simp) (by assumption) rfl rfl ?_
  simp only [Act.put, List.setIfInBounds_toArray, List.set_cons_zero, List.set_cons_succ]
  refine wpAnyZ_yield 1 13 (.int .i64 (Tl.c ⟨0, 0, u.m, u.x⟩)) [21] rfl rfl (by kernel_rfl) (by kernel_rfl) (by kernel_rfl) (by kernel_rfl) (by kernel_rfl) (fun _ _ _ h => h) (by kernel_rfl) (fun W hW => by obtain ⟨c0, c1, c2, c3⟩ := tl_cells (hW.at A0); go_simp) (by assumption) rfl rfl ?_
  simp only [Act.put, List.setIfInBounds_toArray, List.set_cons_zero, List.set_cons_succ]
  refine wpAnyZ_yield 2 14 (.pointer (some ⟨B + 1, 0, none⟩)) [21] rfl rfl (by kernel_rfl) (by kernel_rfl) (by kernel_rfl) (by kernel_rfl) (by kernel_rfl) (fun _ _ _ h => h) (by kernel_rfl) (fun W hW => by go_simp) (by assumption) rfl rfl ?_
  simp only [Act.put, List.setIfInBounds_toArray, List.set_cons_zero, List.set_cons_succ]
  refine wpAnyZ_yield 3 15 (.int .i64 u.c) [21] rfl rfl (by kernel_rfl) (by kernel_rfl) (by kernel_rfl) (by kernel_rfl) (by kernel_rfl) (fun _ _ _ h => h) (by kernel_rfl) (fun W hW => by obtain ⟨c0, c1, c2, c3⟩ := tl_cells (hW.at A1); go_simp) (by assumption) rfl rfl ?_
  simp only [Act.put, List.setIfInBounds_toArray, List.set_cons_zero, List.set_cons_succ]
  refine wpAnyZ_yield 5 17 (.pointer (some ⟨B, 1, none⟩)) [21] rfl rfl (by kernel_rfl) (by kernel_rfl) (by kernel_rfl) (by kernel_rfl) (by kernel_rfl) (fun _ _ _ h => h) (by kernel_rfl) (fun W hW => by go_simp) (by assumption) rfl rfl ?_
  simp only [Act.put, List.setIfInBounds_toArray, List.set_cons_zero, List.set_cons_succ]
  refine wpAnyZ_yield 6 18 (.int .i64 (Tl.s ⟨0, 0, u.m, u.x⟩)) [21] rfl rfl (by kernel_rfl) (by kernel_rfl) (by kernel_rfl) (by kernel_rfl) (by kernel_rfl) (fun _ _ _ h => h) (by kernel_rfl) (fun W hW => by obtain ⟨c0, c1, c2, c3⟩ := tl_cells (hW.at A0); go_simp) (by assumption) rfl rfl ?_
  simp only [Act.put, List.setIfInBounds_toArray, List.set_cons_zero, List.set_cons_succ]
  refine wpAnyZ_yield 7 19 (.pointer (some ⟨B + 1, 1, none⟩)) [21] rfl rfl (by kernel_rfl) (by kernel_rfl) (by kernel_rfl) (by kernel_rfl) (by kernel_rfl) (fun _ _ _ h => h) (by kernel_rfl) (fun W hW => by go_simp) (by assumption) rfl rfl ?_
  simp only [Act.put, List.setIfInBounds_toArray, List.set_cons_zero, List.set_cons_succ]
  refine wpAnyZ_yield 8 20 (.int .i64 u.s) [21] rfl rfl (by kernel_rfl) (by kernel_rfl) (by kernel_rfl) (by kernel_rfl) (by kernel_rfl) (fun _ _ _ h => h) (by kernel_rfl) (fun W hW => by obtain ⟨c0, c1, c2, c3⟩ := tl_cells (hW.at A1); go_simp) (by assumption) rfl rfl ?_
  simp only [Act.put, List.setIfInBounds_toArray, List.set_cons_zero, List.set_cons_succ]
  refine wpAnyZ_yield 9 21 (.int .i64 (wrap64 (Tl.s ⟨0, 0, u.m, u.x⟩ + u.s))) [21] rfl rfl (by kernel_rfl) (by kernel_rfl) (by kernel_rfl) (by kernel_rfl) (by kernel_rfl) (fun _ _ _ h => h) (by kernel_rfl) (fun W hW => by go_simp; exact wrapEq _) (by assumption) rfl rfl ?_
  simp only [Act.put, List.setIfInBounds_toArray, List.set_cons_zero, List.set_cons_succ]
  refine wpAnyZ_yield 10 22 (.pointer (some ⟨B, 2, none⟩)) [21] rfl rfl (by kernel_rfl) (by kernel_rfl) (by kernel_rfl) (by kernel_rfl) (by kernel_rfl) (fun _ _ _ h => h) (by kernel_rfl) (fun W hW => by go_simp) (by assumption) rfl rfl ?_
  simp only [Act.put, List.setIfInBounds_toArray, List.set_cons_zero, List.set_cons_succ]
  refine wpAnyZ_yield 11 23 (.int .i64 (Tl.m ⟨0, 0, u.m, u.x⟩)) [21] rfl rfl (by kernel_rfl) (by kernel_rfl) (by kernel_rfl) (by kernel_rfl) (by kernel_rfl) (fun _ _ _ h => h) (by kernel_rfl) (fun W hW => by obtain ⟨c0, c1, c2, c3⟩ := tl_cells (hW.at A0); go_simp) (by assumption) rfl rfl ?_
  simp only [Act.put, List.setIfInBounds_toArray, List.set_cons_zero, List.set_cons_succ]
  refine wpAnyZ_yield 12 24 (.pointer (some ⟨B + 1, 2, none⟩)) [21] rfl rfl (by kernel_rfl) (by kernel_rfl) (by kernel_rfl) (by kernel_rfl) (by kernel_rfl) (fun _ _ _ h => h) (by kernel_rfl) (fun W hW => by go_simp) (by assumption) rfl rfl ?_
  simp only [Act.put, List.setIfInBounds_toArray, List.set_cons_zero, List.set_cons_succ]
  refine wpAnyZ_yield 13 25 (.int .i64 u.m) [21] rfl rfl (by kernel_rfl) (by kernel_rfl) (by kernel_rfl) (by kernel_rfl) (by kernel_rfl) (fun _ _ _ h => h) (by kernel_rfl) (fun W hW => by obtain ⟨c0, c1, c2, c3⟩ := tl_cells (hW.at A1); go_simp) (by assumption) rfl rfl ?_
  simp only [Act.put, List.setIfInBounds_toArray, List.set_cons_zero, List.set_cons_succ]
  refine wpAnyZ_yield 14 26 (.int .i64 (min (Tl.m ⟨0, 0, u.m, u.x⟩) u.m)) [21] rfl rfl (by kernel_rfl) (by kernel_rfl) (by kernel_rfl) (by kernel_rfl) (by kernel_rfl) (fun _ _ _ h => h) (by kernel_rfl) (fun W hW => by go_simp) (by assumption) rfl rfl ?_
  simp only [Act.put, List.setIfInBounds_toArray, List.set_cons_zero, List.set_cons_succ]
  refine wpAnyZ_yield 15 27 (.pointer (some ⟨B, 3, none⟩)) [21] rfl rfl (by kernel_rfl) (by kernel_rfl) (by kernel_rfl) (by kernel_rfl) (by kernel_rfl) (fun _ _ _ h => h) (by kernel_rfl) (fun W hW => by go_simp) (by assumption) rfl rfl ?_
  simp only [Act.put, List.setIfInBounds_toArray, List.set_cons_zero, List.set_cons_succ]
  refine wpAnyZ_yield 16 28 (.int .i64 (Tl.x ⟨0, 0, u.m, u.x⟩)) [21] rfl rfl (by kernel_rfl) (by kernel_rfl) (by kernel_rfl) (by kernel_rfl) (by kernel_rfl) (fun _ _ _ h => h) (by kernel_rfl) (fun W hW => by obtain ⟨c0, c1, c2, c3⟩ := tl_cells (hW.at A0); go_simp) (by assumption) rfl rfl ?_
  simp only [Act.put, List.setIfInBounds_toArray, List.set_cons_zero, List.set_cons_succ]
  refine wpAnyZ_yield 17 29 (.pointer (some ⟨B + 1, 3, none⟩)) [21] rfl rfl (by kernel_rfl) (by kernel_rfl) (by kernel_rfl) (by kernel_rfl) (by kernel_rfl) (fun _ _ _ h => h) (by kernel_rfl) (fun W hW => by go_simp) (by assumption) rfl rfl ?_
  simp only [Act.put, List.setIfInBounds_toArray, List.set_cons_zero, List.set_cons_succ]
  refine wpAnyZ_yield 18 30 (.int .i64 u.x) [21] rfl rfl (by kernel_rfl) (by kernel_rfl) (by kernel_rfl) (by kernel_rfl) (by kernel_rfl) (fun _ _ _ h => h) (by kernel_rfl) (fun W hW => by obtain ⟨c0, c1, c2, c3⟩ := tl_cells (hW.at A1); go_simp) (by assumption) rfl rfl ?_
  simp only [Act.put, List.setIfInBounds_toArray, List.set_cons_zero, List.set_cons_succ]
  refine wpAnyZ_yield 19 31 (.int .i64 (max (Tl.x ⟨0, 0, u.m, u.x⟩) u.x)) [21] rfl rfl (by kernel_rfl) (by kernel_rfl) (by kernel_rfl) (by kernel_rfl) (by kernel_rfl) (fun _ _ _ h => h) (by kernel_rfl) (fun W hW => by go_simp) (by assumption) rfl rfl ?_
  simp only [Act.put, List.setIfInBounds_toArray, List.set_cons_zero, List.set_cons_succ]
  refine wpAnyZ_enter 4 16 41 #[.int .i64 (Tl.c ⟨0, 0, u.m, u.x⟩), .int .i64 u.c] rfl rfl (by decide) (by kernel_rfl) (by kernel_rfl) (by kernel_rfl) ?_
  refine ((C _).out).mono ?_
  rintro r w2 ⟨rfl, hq⟩
  subst hq
  refine ⟨_, rfl, hT0, ?_⟩
  simp only [Act.put, List.setIfInBounds_toArray, List.set_cons_zero, List.set_cons_succ]
  refine wpAnyZ_yield 20 32 (tlv (rawT ⟨0, 0, u.m, u.x⟩ u)) [21] rfl rfl (by kernel_rfl) (by kernel_rfl) (by kernel_rfl) (by kernel_rfl) (by kernel_rfl) (fun _ _ _ h => h) (by kernel_rfl) (fun W hW => by go_simp; simp [rawT]) (by assumption) rfl rfl ?_
  simp only [Act.put, List.setIfInBounds_toArray, List.set_cons_zero, List.set_cons_succ]
  refine wpAnyZ_end rfl (by kernel_rfl) (by kernel_rfl) (by kernel_rfl) ?_
  generalize ({ w1 with drawn := w1.drawn + 1 } : World) = w2 at *
  have A2' := hT0.at A2
  obtain ⟨c0, c1, c2, c3⟩ := tl_cells A2'
  have f0 : ∀ o, w2.frozen? ⟨B + 1 + 1, o, none⟩ = false := fun o => by simp [World.frozen?, A2']
  have z0 := f0 0
  have z1 := f0 1
  have z2 := f0 2
  have z3 := f0 3
  clear f0 A0 A1 A2
  generalize hr : rawT ⟨0, 0, u.m, u.x⟩ u = r
  have HR := hide hr
  clear hr
  unfold Oper.wp
  go_simp
  obtain ⟨A3, T3⟩ := tl_set r A2'
  generalize ((((w2.setCell ⟨B + 1 + 1, 0, none⟩ (.int .i64 r.c)).setCell ⟨B + 1 + 1, 1, none⟩ (.int .i64 r.s)).setCell ⟨B + 1 + 1, 2, none⟩ (.int .i64 r.m)).setCell ⟨B + 1 + 1, 3, none⟩ (.int .i64 r.x)) = w3 at *
  clear c0 c1 c2 c3 z0 z1 z2 z3 A2'
  obtain ⟨c0, c1, c2, c3⟩ := tl_cells A3
  have T4 := hide (Touch.trans (HT0.out.tr hT0) T3 (fun k hk e => by have := HB.out; omega))
  have A4 := hide A3
  clear T3 A3 hT0
  go_wp2_with fail
  refine bodyPost_ret (results_cell_row rfl _ _ _ _ _ _ _ rfl A4.out Try.underlying28 rfl (by kernel_rfl)) rfl ?_
  exact ⟨by rw [HR.out], T4.out⟩

set_option maxRecDepth 100000 in
set_option maxHeartbeats 1000000 in
theorem put_neg (t u : Tl) (h : ¬ t.c < 1) (hu : 1 ≤ u.c) (w : World) : Calls Try.prog 37 #[tlv t, tlv u] w fun e w' => e = .returned (tlv (rawT t u)) ∧ Calm w w' := by
  have E := fun w => hide (isEmpty_any t w)
  have C := fun w => hide (counts_any (Tl.c t) u.c (by omega) (by omega) w)
  go_enter Try.func37, Try.ntmps37
  go_wp2_with fail
  refine (E _).out.mono ?_
  rintro e w' ⟨rfl, hq⟩
  subst hq
  clear E
  go_wp2_with fail
  generalize hw : ((((w.alloc (Obj.cells (tlc t) 28)).alloc (Obj.cells (tlc u) 28)).alloc (Obj.cells (tlc ⟨0, 0, 0, 0⟩) 28)).alloc (Obj.cells (tlc t) 28)) = w1
  have T0 : Calm w w1 := by rw [← hw]; exact ((((Touch.refl (fun _ => False) w).alloc _).alloc _).alloc _).alloc _
  have A0 : w1.heap[w.heap.size]? = some (.cells (tlc t) 28 (0, 0)) := by rw [← hw]; exact al_old (al3 w _ _ _).1 _
  have A1 : w1.heap[w.heap.size + 1]? = some (.cells (tlc u) 28 (0, 0)) := by rw [← hw]; exact al_old (al3 w _ _ _).2.1 _
  have A2 : w1.heap[w.heap.size + 1 + 1]? = some (.cells (tlc ⟨0, 0, 0, 0⟩) 28 (0, 0)) := by rw [← hw]; exact al_old (al3 w _ _ _).2.2 _
  have HT0 := hide T0
  clear hw T0
  generalize hB : w.heap.size = B at *
  have HB := hide hB
  clear hB
  refine wp_region_z 21 (Calm w1) (by kernel_rfl) ?_
  have hT0 : Calm w1 { w1 with drawn := w1.drawn + 1 } := (Touch.refl (fun _ => False) w1).drew
  refine wpAnyZ_yield 0 12 (.pointer (some ⟨B, 0, none⟩)) [21] rfl rfl (by kernel_rfl) (by kernel_rfl) (by kernel_rfl) (by kernel_rfl) (by kernel_rfl) (fun _ _ _ h => h) (by kernel_rfl) (fun W hW => by go_simp) (by assumption) rfl rfl ?_
  simp only [Act.put, List.setIfInBounds_toArray, List.set_cons_zero, List.set_cons_succ]
  refine wpAnyZ_yield 1 13 (.int .i64 (Tl.c t)) [21] rfl rfl (by kernel_rfl) (by kernel_rfl) (by kernel_rfl) (by kernel_rfl) (by kernel_rfl) (fun _ _ _ h => h) (by kernel_rfl) (fun W hW => by obtain ⟨c0, c1, c2, c3⟩ := tl_cells (hW.at A0); go_simp) (by assumption) rfl rfl ?_
  simp only [Act.put, List.setIfInBounds_toArray, List.set_cons_zero, List.set_cons_succ]
  refine wpAnyZ_yield 2 14 (.pointer (some ⟨B + 1, 0, none⟩)) [21] rfl rfl (by kernel_rfl) (by kernel_rfl) (by kernel_rfl) (by kernel_rfl) (by kernel_rfl) (fun _ _ _ h => h) (by kernel_rfl) (fun W hW => by go_simp) (by assumption) rfl rfl ?_
  simp only [Act.put, List.setIfInBounds_toArray, List.set_cons_zero, List.set_cons_succ]
  refine wpAnyZ_yield 3 15 (.int .i64 u.c) [21] rfl rfl (by kernel_rfl) (by kernel_rfl) (by kernel_rfl) (by kernel_rfl) (by kernel_rfl) (fun _ _ _ h => h) (by kernel_rfl) (fun W hW => by obtain ⟨c0, c1, c2, c3⟩ := tl_cells (hW.at A1); go_simp) (by assumption) rfl rfl ?_
  simp only [Act.put, List.setIfInBounds_toArray, List.set_cons_zero, List.set_cons_succ]
  refine wpAnyZ_yield 5 17 (.pointer (some ⟨B, 1, none⟩)) [21] rfl rfl (by kernel_rfl) (by kernel_rfl) (by kernel_rfl) (by kernel_rfl) (by kernel_rfl) (fun _ _ _ h => h) (by kernel_rfl) (fun W hW => by go_simp) (by assumption) rfl rfl ?_
  simp only [Act.put, List.setIfInBounds_toArray, List.set_cons_zero, List.set_cons_succ]
  refine wpAnyZ_yield 6 18 (.int .i64 (Tl.s t)) [21] rfl rfl (by kernel_rfl) (by kernel_rfl) (by kernel_rfl) (by kernel_rfl) (by kernel_rfl) (fun _ _ _ h => h) (by kernel_rfl) (fun W hW => by obtain ⟨c0, c1, c2, c3⟩ := tl_cells (hW.at A0); go_simp) (by assumption) rfl rfl ?_
  simp only [Act.put, List.setIfInBounds_toArray, List.set_cons_zero, List.set_cons_succ]
  refine wpAnyZ_yield 7 19 (.pointer (some ⟨B + 1, 1, none⟩)) [21] rfl rfl (by kernel_rfl) (by kernel_rfl) (by kernel_rfl) (by kernel_rfl) (by kernel_rfl) (fun _ _ _ h => h) (by kernel_rfl) (fun W hW => by go_simp) (by assumption) rfl rfl ?_
  simp only [Act.put, List.setIfInBounds_toArray, List.set_cons_zero, List.set_cons_succ]
  refine wpAnyZ_yield 8 20 (.int .i64 u.s) [21] rfl rfl (by kernel_rfl) (by kernel_rfl) (by kernel_rfl) (by kernel_rfl) (by kernel_rfl) (fun _ _ _ h => h) (by kernel_rfl) (fun W hW => by obtain ⟨c0, c1, c2, c3⟩ := tl_cells (hW.at A1); go_simp) (by assumption) rfl rfl ?_
  simp only [Act.put, List.setIfInBounds_toArray, List.set_cons_zero, List.set_cons_succ]
  refine wpAnyZ_yield 9 21 (.int .i64 (wrap64 (Tl.s t + u.s))) [21] rfl rfl (by kernel_rfl) (by kernel_rfl) (by kernel_rfl) (by kernel_rfl) (by kernel_rfl) (fun _ _ _ h => h) (by kernel_rfl) (fun W hW => by go_simp; exact wrapEq _) (by assumption) rfl rfl ?_
  simp only [Act.put, List.setIfInBounds_toArray, List.set_cons_zero, List.set_cons_succ]
  refine wpAnyZ_yield 10 22 (.pointer (some ⟨B, 2, none⟩)) [21] rfl rfl (by kernel_rfl) (by kernel_rfl) (by kernel_rfl) (by kernel_rfl) (by kernel_rfl) (fun _ _ _ h => h) (by kernel_rfl) (fun W hW => by go_simp) (by assumption) rfl rfl ?_
  simp only [Act.put, List.setIfInBounds_toArray, List.set_cons_zero, List.set_cons_succ]
  refine wpAnyZ_yield 11 23 (.int .i64 (Tl.m t)) [21] rfl rfl (by kernel_rfl) (by kernel_rfl) (by kernel_rfl) (by kernel_rfl) (by kernel_rfl) (fun _ _ _ h => h) (by kernel_rfl) (fun W hW => by obtain ⟨c0, c1, c2, c3⟩ := tl_cells (hW.at A0); go_simp) (by assumption) rfl rfl ?_
  simp only [Act.put, List.setIfInBounds_toArray, List.set_cons_zero, List.set_cons_succ]
  refine wpAnyZ_yield 12 24 (.pointer (some ⟨B + 1, 2, none⟩)) [21] rfl rfl (by kernel_rfl) (by kernel_rfl) (by kernel_rfl) (by kernel_rfl) (by kernel_rfl) (fun _ _ _ h => h) (by kernel_rfl) (fun W hW => by go_simp) (by assumption) rfl rfl ?_
  simp only [Act.put, List.setIfInBounds_toArray, List.set_cons_zero, List.set_cons_succ]
  refine wpAnyZ_yield 13 25 (.int .i64 u.m) [21] rfl rfl (by kernel_rfl) (by kernel_rfl) (by kernel_rfl) (by kernel_rfl) (by kernel_rfl) (fun _ _ _ h => h) (by kernel_rfl) (fun W hW => by obtain ⟨c0, c1, c2, c3⟩ := tl_cells (hW.at A1); go_simp) (by assumption) rfl rfl ?_
  simp only [Act.put, List.setIfInBounds_toArray, List.set_cons_zero, List.set_cons_succ]
  refine wpAnyZ_yield 14 26 (.int .i64 (min (Tl.m t) u.m)) [21] rfl rfl (by kernel_rfl) (by kernel_rfl) (by kernel_rfl) (by kernel_rfl) (by kernel_rfl) (fun _ _ _ h => h) (by kernel_rfl) (fun W hW => by go_simp) (by assumption) rfl rfl ?_
  simp only [Act.put, List.setIfInBounds_toArray, List.set_cons_zero, List.set_cons_succ]
  refine wpAnyZ_yield 15 27 (.pointer (some ⟨B, 3, none⟩)) [21] rfl rfl (by kernel_rfl) (by kernel_rfl) (by kernel_rfl) (by kernel_rfl) (by kernel_rfl) (fun _ _ _ h => h) (by kernel_rfl) (fun W hW => by go_simp) (by assumption) rfl rfl ?_
  simp only [Act.put, List.setIfInBounds_toArray, List.set_cons_zero, List.set_cons_succ]
  refine wpAnyZ_yield 16 28 (.int .i64 (Tl.x t)) [21] rfl rfl (by kernel_rfl) (by kernel_rfl) (by kernel_rfl) (by kernel_rfl) (by kernel_rfl) (fun _ _ _ h => h) (by kernel_rfl) (fun W hW => by obtain ⟨c0, c1, c2, c3⟩ := tl_cells (hW.at A0); go_simp) (by assumption) rfl rfl ?_
  simp only [Act.put, List.setIfInBounds_toArray, List.set_cons_zero, List.set_cons_succ]
  refine wpAnyZ_yield 17 29 (.pointer (some ⟨B + 1, 3, none⟩)) [21] rfl rfl (by kernel_rfl) (by kernel_rfl) (by kernel_rfl) (by kernel_rfl) (by kernel_rfl) (fun _ _ _ h => h) (by kernel_rfl) (fun W hW => by go_simp) (by assumption) rfl rfl ?_
  simp only [Act.put, List.setIfInBounds_toArray, List.set_cons_zero, List.set_cons_succ]
  refine wpAnyZ_yield 18 30 (.int .i64 u.x) [21] rfl rfl (by kernel_rfl) (by kernel_rfl) (by kernel_rfl) (by kernel_rfl) (by kernel_rfl) (fun _ _ _ h => h) (by kernel_rfl) (fun W hW => by obtain ⟨c0, c1, c2, c3⟩ := tl_cells (hW.at A1); go_simp) (by assumption) rfl rfl ?_
  simp only [Act.put, List.setIfInBounds_toArray, List.set_cons_zero, List.set_cons_succ]
  refine wpAnyZ_yield 19 31 (.int .i64 (max (Tl.x t) u.x)) [21] rfl rfl (by kernel_rfl) (by kernel_rfl) (by kernel_rfl) (by kernel_rfl) (by kernel_rfl) (fun _ _ _ h => h) (by kernel_rfl) (fun W hW => by go_simp) (by assumption) rfl rfl ?_
  simp only [Act.put, List.setIfInBounds_toArray, List.set_cons_zero, List.set_cons_succ]
  refine wpAnyZ_enter 4 16 41 #[.int .i64 (Tl.c t), .int .i64 u.c] rfl rfl (by decide) (by kernel_rfl) (by kernel_rfl) (by kernel_rfl) ?_
  refine ((C _).out).mono ?_
  rintro r w2 ⟨rfl, hq⟩
  subst hq
  refine ⟨_, rfl, hT0, ?_⟩
  simp only [Act.put, List.setIfInBounds_toArray, List.set_cons_zero, List.set_cons_succ]
  refine wpAnyZ_yield 20 32 (tlv (rawT t u)) [21] rfl rfl (by kernel_rfl) (by kernel_rfl) (by kernel_rfl) (by kernel_rfl) (by kernel_rfl) (fun _ _ _ h => h) (by kernel_rfl) (fun W hW => by go_simp; simp [rawT]) (by assumption) rfl rfl ?_
  simp only [Act.put, List.setIfInBounds_toArray, List.set_cons_zero, List.set_cons_succ]
  refine wpAnyZ_end rfl (by kernel_rfl) (by kernel_rfl) (by kernel_rfl) ?_
  generalize ({ w1 with drawn := w1.drawn + 1 } : World) = w2 at *
  have A2' := hT0.at A2
  obtain ⟨c0, c1, c2, c3⟩ := tl_cells A2'
  have f0 : ∀ o, w2.frozen? ⟨B + 1 + 1, o, none⟩ = false := fun o => by simp [World.frozen?, A2']
  have z0 := f0 0
  have z1 := f0 1
  have z2 := f0 2
  have z3 := f0 3
  clear f0 A0 A1 A2
  generalize hr : rawT t u = r
  have HR := hide hr
  clear hr
  unfold Oper.wp
  go_simp
  obtain ⟨A3, T3⟩ := tl_set r A2'
  generalize ((((w2.setCell ⟨B + 1 + 1, 0, none⟩ (.int .i64 r.c)).setCell ⟨B + 1 + 1, 1, none⟩ (.int .i64 r.s)).setCell ⟨B + 1 + 1, 2, none⟩ (.int .i64 r.m)).setCell ⟨B + 1 + 1, 3, none⟩ (.int .i64 r.x)) = w3 at *
  clear c0 c1 c2 c3 z0 z1 z2 z3 A2'
  obtain ⟨c0, c1, c2, c3⟩ := tl_cells A3
  have T4 := hide (Touch.trans (HT0.out.tr hT0) T3 (fun k hk e => by have := HB.out; omega))
  have A4 := hide A3
  clear T3 A3 hT0
  go_wp2_with fail
  refine bodyPost_ret (results_cell_row rfl _ _ _ _ _ _ _ rfl A4.out Try.underlying28 rfl (by kernel_rfl)) rfl ?_
  exact ⟨by rw [HR.out], T4.out⟩

/-- A tally with one more behind it that is not empty. -/
theorem put_any (t u : Tl) (hu : 1 ≤ u.c) (w : World) : Calls Try.prog 37 #[tlv t, tlv u] w fun e w' => e = .returned (tlv (putT t u)) ∧ Calm w w' := by
  unfold putT
  by_cases h : t.c < 1
  · rw [if_pos h]; exact put_pos t u h hu w
  · rw [if_neg h]; exact put_neg t u h hu w

end Go.Proofs.Ytfmlbcddomggaaa
