/- The chapter's examples. -/
import Derived.Test.YtakpeopghhblmaaDoorYJ
namespace Go.Proofs.YtakpeopghhblmaaDoor
open Go.RowKit Go.Lib

theorem seg_new (w : World) (k : IntKind) (xs : List Int) (e : TypeId) : Seg (w.alloc (.cells (xs.map (Value.int k)).toArray e)) k (some ⟨w.heap.size, 0, none⟩) xs :=
  ⟨fun h => (nomatch h), fun a ha _ => by injection ha with ha; subst ha; rfl, fun a ha j hj => by injection ha with ha; subst ha; rw [Addr.add_lit]; simp [hj]⟩

theorem ex1 : ofT [3, -1, 3] = ⟨3, 5, -1, 3⟩ := by kernel_rfl
theorem ex2 : addT ⟨3, 5, -1, 3⟩ 7 = ⟨4, 12, -1, 7⟩ := by kernel_rfl
theorem ex3 : joinT [⟨3, 5, -1, 3⟩, ⟨3, 5, -1, 3⟩] = ⟨6, 10, -1, 3⟩ := by kernel_rfl
theorem ex4 : canT ⟨3, 5, -1, 3⟩ = true := by decide +kernel
theorem ex5 : canT ⟨3, 6, 2, 3⟩ = false := by decide +kernel
theorem ex6 : floatBits .quo .f64 (floatOfInt .f64 5) (floatOfInt .f64 3) = some 4610184818551597739 := by decide +kernel
theorem ex7 : (FloatKind.f64.format.order 4610184818551597739 4610184818551597739 == some .eq) = true := by decide +kernel
theorem ex8 : wid ⟨3, 5, -1, 3⟩ = 4 := by decide +kernel

theorem tls_two (w : World) (t u : Tl) (e : TypeId) : Tls (w.alloc (.cells #[.int .i64 t.c, .int .i64 t.s, .int .i64 t.m, .int .i64 t.x, .int .i64 u.c, .int .i64 u.s, .int .i64 u.m, .int .i64 u.x] e)) (some ⟨w.heap.size, 0, none⟩) [t, u] := fun j hj => by
  refine ⟨w.heap.size, 0, rfl, ?_⟩
  have : j = 0 ∨ j = 1 := by simp at hj; omega
  rcases this with rfl | rfl <;> simp

set_option maxRecDepth 100000 in
set_option maxHeartbeats 1000000 in
theorem works_any (w : World) : Calls Tryd.prog 15 #[] w fun e w' => e = .returned (.bool true) ∧ Calm w w' := by
  have C1 := hide (of_any (some ⟨w.heap.size, 0, none⟩) 3 [3, -1, 3] _ (seg_new w .i64 [3, -1, 3] 2) (by decide))
  have C2 := fun w => hide (mean_yes ⟨3, 5, -1, 3⟩ (by decide) _ ex6 w)
  have C3 := fun w => hide (add_any ⟨3, 5, -1, 3⟩ 7 w)
  have C4 := fun w : World => hide (join_any (some ⟨w.heap.size, 0, none⟩) 2 [⟨3, 5, -1, 3⟩, ⟨3, 5, -1, 3⟩] _ (tls_two w ⟨3, 5, -1, 3⟩ ⟨3, 5, -1, 3⟩ 24) (by decide))
  have C5 := fun w => hide (can_any ⟨3, 5, -1, 3⟩ w (fun h => by cases h))
  have C6 := fun w => hide (can_any ⟨3, 6, 2, 3⟩ w (fun h => by cases h))
  have C7 := fun w => hide (width_any ⟨3, 5, -1, 3⟩ w)
  have hx := ex7
  have hf : ∀ W, (Instr.field 24 (.agg #[.int .i64 6, .int .i64 10, .int .i64 (-1), .int .i64 3]) 0).run Tryd.prog W = .ok (.int .i64 6) W := fun W => by kernel_rfl
  rw [ex1] at C1
  simp only [ex2] at C3
  simp only [ex3, tlv, tlc] at C4
  simp only [ex4] at C5
  simp only [ex5] at C6
  simp only [ex8] at C7
  go_enter Tryd.func15, Tryd.ntmps15
  go_wp2_with fail
  refine C1.out.mono ?_
  rintro e w1 ⟨rfl, T1⟩
  have T1 : Calm w w1 := ((Touch.refl (fun _ => False) w).alloc _).tr T1
  clear C1
  go_wp2_with fail
  have A := al_new w1 (.cells (tlc ⟨3, 5, -1, 3⟩) 24)
  have TT : Calm w (w1.alloc (.cells (tlc ⟨3, 5, -1, 3⟩) 24)) := T1.alloc _
  have HA := hide A
  have HT := hide TT
  clear A TT T1
  generalize w1.heap.size = B at *
  refine (C2 _).out.mono ?_
  rintro e w2 ⟨rfl, T⟩
  have A := T.at HA.out
  have TT := HT.out.tr T
  obtain ⟨c0, c1, c2, c3⟩ := tl_cells A
  clear HA HT C2
  have HA := hide A
  have HT := hide TT
  clear A TT T
  go_wp2_with fail
  clear c0 c1 c2 c3
  refine (C3 _).out.mono ?_
  rintro e w3 ⟨rfl, T⟩
  have A := T.at HA.out
  have TT := HT.out.tr T
  obtain ⟨c0, c1, c2, c3⟩ := tl_cells A
  clear HA HT C3
  have HA := hide A
  have HT := hide TT
  clear A TT T
  go_wp2_with fail
  clear c0 c1 c2 c3
  refine (C4 _).out.mono ?_
  rintro e w4 ⟨rfl, T⟩
  have A := T.at (al_old HA.out _)
  have TT := (HT.out.alloc _).tr T
  obtain ⟨c0, c1, c2, c3⟩ := tl_cells A
  clear HA HT C4
  have HA := hide A
  have HT := hide TT
  clear A TT T
  go_wp2_with fail
  clear c0 c1 c2 c3
  refine (C5 _).out.mono ?_
  rintro e w5 ⟨rfl, T⟩
  have A := T.at HA.out
  have TT := HT.out.tr T
  obtain ⟨c0, c1, c2, c3⟩ := tl_cells A
  clear HA HT C5
  have HA := hide A
  have HT := hide TT
  clear A TT T
  go_wp2_with fail
  clear c0 c1 c2 c3
  refine (C6 _).out.mono ?_
  rintro e w6 ⟨rfl, T⟩
  have A := T.at HA.out
  have TT := HT.out.tr T
  obtain ⟨c0, c1, c2, c3⟩ := tl_cells A
  clear HA HT C6
  have HA := hide A
  have HT := hide TT
  clear A TT T
  go_wp2_with fail
  clear c0 c1 c2 c3
  refine (C7 _).out.mono ?_
  rintro e w7 ⟨rfl, T⟩
  have A := T.at HA.out
  have TT := HT.out.tr T
  obtain ⟨c0, c1, c2, c3⟩ := tl_cells A
  clear HA HT C7
  have HA := hide A
  have HT := hide TT
  clear A TT T
  go_wp2_with fail
  go_ret
  exact ⟨rfl, HT.out⟩

end Go.Proofs.YtakpeopghhblmaaDoor
