/- The walk of TallyMost. -/
import Derived.Test.YtakpeopghhblmabDoorYW
namespace Go.Proofs.YtakpeopghhblmabDoor
open Go.RowKit Go.Lib

theorem mo1 : canT ⟨9007199254740992, 6, 2, 2⟩ = true := by decide +kernel
theorem mo2 : canT ⟨9007199254740992, 7, 2, 2⟩ = false := by decide +kernel
theorem mo3 (v : Int) : canT ⟨9007199254740992, v, 2, 3⟩ = true := by simp [canT]
theorem mo4 : canT ⟨9007199254740993, 6, 2, 2⟩ = false := by decide +kernel

theorem mk0 : cnt 0 9007199254740992 = 9007199254740992 := by decide
theorem mk1 : cnt 9007199254740992 1 = 9007199254740992 := by decide
theorem mk5 : cnt 9007199254740992 5 = 9007199254740992 := by decide
theorem mk9 : cnt 9007199254740992 9007199254740992 = 9007199254740992 := by decide

theorem mo_add (s m x v : Int) : (addT ⟨9007199254740992, s, m, x⟩ v).c = 9007199254740992 ∧ (addT ⟨9007199254740992, s, m, x⟩ v).s = wrap64 (s + v) := by
  simp [addT, putT, rawT, mk1]

theorem mo_join (s m x v : Int) : (joinT [⟨9007199254740992, s, m, x⟩, ⟨5, v, v, v⟩, ⟨9007199254740992, s, m, x⟩]).c = 9007199254740992 ∧ (joinT [⟨9007199254740992, s, m, x⟩, ⟨5, v, v, v⟩, ⟨9007199254740992, s, m, x⟩]).s = wrap64 (wrap64 (s + s) + v) := by
  have e : wrap64 (wrap64 (wrap64 s + v) + s) = wrap64 (wrap64 (s + s) + v) := by unfold wrap64; omega
  rw [← e]
  simp [joinT, joinS, putT, rawT, mk0, mk5, mk9]

theorem tls_three (w : World) (t u z : Tl) (e : TypeId) : Tls (w.alloc (.cells #[.int .i64 t.c, .int .i64 t.s, .int .i64 t.m, .int .i64 t.x, .int .i64 u.c, .int .i64 u.s, .int .i64 u.m, .int .i64 u.x, .int .i64 z.c, .int .i64 z.s, .int .i64 z.m, .int .i64 z.x] e)) (some ⟨w.heap.size, 0, none⟩) [t, u, z] := fun j hj => by
  refine ⟨w.heap.size, 0, rfl, ?_⟩
  have : j = 0 ∨ j = 1 ∨ j = 2 := by simp at hj; omega
  rcases this with rfl | rfl | rfl <;> simp

theorem al5 (w : World) (o0 o1 o2 o3 o4 : Obj) : (((((w.alloc o0).alloc o1).alloc o2).alloc o3).alloc o4).heap[w.heap.size + 1]? = some o1 ∧ (((((w.alloc o0).alloc o1).alloc o2).alloc o3).alloc o4).heap[w.heap.size + 1 + 1]? = some o2 ∧ (((((w.alloc o0).alloc o1).alloc o2).alloc o3).alloc o4).heap[w.heap.size + 1 + 1 + 1]? = some o3 ∧ (((((w.alloc o0).alloc o1).alloc o2).alloc o3).alloc o4).heap[w.heap.size + 1 + 1 + 1 + 1]? = some o4 := by
  obtain ⟨a, b, c⟩ := al3 (w.alloc o0) o1 o2 o3
  have d := al_new ((((w.alloc o0).alloc o1).alloc o2).alloc o3) o4
  rw [al_size] at a b c
  rw [al_size, al_size, al_size, al_size] at d
  exact ⟨al_old a _, al_old b _, al_old c _, d⟩

set_option maxRecDepth 100000 in
set_option maxHeartbeats 1000000 in
theorem most_walk (t : Tl) (v : Int) (w : World) (hT : Tab64 w) : Calls Tryd.prog 3 #[tlv t, .int .i64 v] w fun e w' => e = .returned (.bool true) ∧ Calm w w' := by
  obtain ⟨c, s, m, x⟩ := t
  have CA := fun w => hide (add_any ⟨9007199254740992, s, m, x⟩ v w)
  have CJ := fun (w : World) (b : Nat) (hb : w.heap.size = b) => hide (join_any (some ⟨b, 0, none⟩) 3 [⟨9007199254740992, s, m, x⟩, ⟨5, v, v, v⟩, ⟨9007199254740992, s, m, x⟩] _ (hb ▸ tls_three w _ _ _ 23) (by simp))
  have C1 := fun w' (h : Calm w w') => hide (can_any ⟨9007199254740992, 6, 2, 2⟩ w' (fun _ => hT.calm h))
  have C2 := fun w' (h : Calm w w') => hide (can_any ⟨9007199254740992, 7, 2, 2⟩ w' (fun _ => hT.calm h))
  have C3 := fun w' (h : Calm w w') => hide (can_any ⟨9007199254740992, v, 2, 3⟩ w' (fun _ => hT.calm h))
  have C4 := fun w' (h : Calm w w') => hide (can_any ⟨9007199254740993, 6, 2, 2⟩ w' (fun _ => hT.calm h))
  have C5 := fun w => hide (works_any w)
  simp only [mo1] at C1
  simp only [mo2] at C2
  simp only [mo3] at C3
  simp only [mo4] at C4
  obtain ⟨a1, a2⟩ := mo_add s m x v
  obtain ⟨j1, j2⟩ := mo_join s m x v
  replace a1 := hide a1
  replace a2 := hide a2
  replace j1 := hide j1
  replace j2 := hide j2
  generalize addT ⟨9007199254740992, s, m, x⟩ v = a at *
  generalize joinT [⟨9007199254740992, s, m, x⟩, ⟨5, v, v, v⟩, ⟨9007199254740992, s, m, x⟩] = j at *
  clear hT
  go_enter Tryd.func3, Tryd.ntmps3
  go_wp2_with fail
  refine (CA _).out.mono ?_
  rintro e w1 ⟨rfl, T1⟩
  have A := T1.at (al_new w (.cells (tlc ⟨9007199254740992, s, m, x⟩) 23))
  have T2 := ((Touch.refl (fun _ => False) w).alloc (.cells (tlc ⟨9007199254740992, s, m, x⟩) 23)).tr T1
  clear CA T1
  generalize w.heap.size = B at *
  obtain ⟨c0, c1, c2, c3⟩ := tl_cells A
  have n0 : w1.heap.size ≠ B := World.new_ne w1 ⟨B, 0, none⟩ c0
  have l0 : B < w1.heap.size := lt_of_heap A
  have HA := hide A
  have HT := hide T2
  clear A T2
  go_wp2_with fail
  refine (CJ (w1.alloc (.cells (tlc a) 23)) (w1.heap.size + 1) (al_size _ _)).out.mono ?_
  rintro e w2 ⟨rfl, T3⟩
  have A := T3.at (al_old (al_old HA.out (.cells (tlc a) 23)) _)
  have P := T3.at (al_old (al_new w1 (.cells (tlc a) 23)) _)
  have T4 := ((HT.out.alloc (.cells (tlc a) 23)).alloc _).tr T3
  clear CJ T3 c0 c1 c2 c3 n0 l0 HA HT
  generalize w1.heap.size = D at *
  obtain ⟨c0, c1, c2, c3⟩ := tl_cells A
  obtain ⟨d0, d1, d2, d3⟩ := tl_cells P
  rw [a1.out] at d0
  rw [a2.out] at d1
  have j1 := j1.out
  have j2 := j2.out
  have n0 : w2.heap.size ≠ B := World.new_ne w2 ⟨B, 0, none⟩ c0
  have n2 : w2.heap.size ≠ D := World.new_ne w2 ⟨D, 0, none⟩ d0
  have l0 : B < w2.heap.size := lt_of_heap A
  have l2 : D < w2.heap.size := lt_of_heap P
  have l3 : B < w2.heap.size + 1 := by omega
  have l4 : B < w2.heap.size + 1 + 1 := by omega
  have l5 : B < w2.heap.size + 1 + 1 + 1 := by omega
  have m1 : w2.heap.size + 1 ≠ B := by omega
  have m2 : w2.heap.size + 1 + 1 ≠ B := by omega
  have m3 : w2.heap.size + 1 + 1 + 1 ≠ B := by omega
  have HA := hide A
  have HT := hide T4
  clear A T4 P a1 a2
  go_wp2_with fail
  clear c0 c1 c2 c3 d0 d1 d2 d3 n0 n2 l0 l2 l3 l4 l5 m1 m2 m3 j1 j2 HA
  obtain ⟨E1, E2, E3, E4⟩ := al5 w2 (.cells #[.int .i64 9007199254740992, .int .i64 (wrap64 (wrap64 (s + s) + v)), .int .i64 j.m, .int .i64 j.x] 23) (.cells (tlc ⟨9007199254740992, 6, 2, 2⟩) 23) (.cells (tlc ⟨9007199254740992, 7, 2, 2⟩) 23) (.cells (tlc ⟨9007199254740992, v, 2, 3⟩) 23) (.cells (tlc ⟨9007199254740993, 6, 2, 2⟩) 23)
  have TA : Calm w (((((w2.alloc (.cells #[.int .i64 9007199254740992, .int .i64 (wrap64 (wrap64 (s + s) + v)), .int .i64 j.m, .int .i64 j.x] 23)).alloc (.cells (tlc ⟨9007199254740992, 6, 2, 2⟩) 23)).alloc (.cells (tlc ⟨9007199254740992, 7, 2, 2⟩) 23)).alloc (.cells (tlc ⟨9007199254740992, v, 2, 3⟩) 23)).alloc (.cells (tlc ⟨9007199254740993, 6, 2, 2⟩) 23)) := ((((HT.out.alloc _).alloc _).alloc _).alloc _).alloc _
  clear E1 HT
  refine (C1 _ TA).out.mono ?_
  rintro e w3 ⟨rfl, T⟩
  have H2 := T.at E2
  have H3 := T.at E3
  have H4 := T.at E4
  have TB := hide (TA.tr T)
  clear TA E2 E3 E4 T C1
  generalize w2.heap.size = F at *
  obtain ⟨c0, c1, c2, c3⟩ := tl_cells H2
  have G3 := hide H3
  have G4 := hide H4
  clear H2 H3 H4
  go_wp2_with fail
  refine (C2 _ TB.out).out.mono ?_
  rintro e w4 ⟨rfl, T⟩
  have H3 := T.at G3.out
  have H4 := T.at G4.out
  have TC := hide (TB.out.tr T)
  clear TB T C2 G3 G4 c0 c1 c2 c3
  obtain ⟨c0, c1, c2, c3⟩ := tl_cells H3
  have G4 := hide H4
  clear H3 H4
  go_wp2_with fail
  refine (C3 _ TC.out).out.mono ?_
  rintro e w5 ⟨rfl, T⟩
  have H4 := T.at G4.out
  have TD := hide (TC.out.tr T)
  clear TC T C3 G4 c0 c1 c2 c3
  obtain ⟨c0, c1, c2, c3⟩ := tl_cells H4
  clear H4
  go_wp2_with fail
  refine (C4 _ TD.out).out.mono ?_
  rintro e w6 ⟨rfl, T⟩
  have TE := hide (TD.out.tr T)
  clear TD T C4 c0 c1 c2 c3
  go_wp2_with fail
  refine (C5 _).out.mono ?_
  rintro e w7 ⟨rfl, T⟩
  have TF := hide (TE.out.tr T)
  clear TE T C5
  go_wp2_with fail
  go_ret
  exact ⟨rfl, TF.out⟩

end Go.Proofs.YtakpeopghhblmabDoor
