/- The verifier's step: kind 1. -/
import Derived.Test.YtlnblhajcbmmkaaTStep
namespace Go.Proofs.Ytlnblhajcbmmkaa
open Go.RowKit

theorem setT_len (t : Tm) (L : List Tm) : (setT t L).length ≤ L.length + 1 := by
  unfold setT
  split
  · omega
  · simp; omega

theorem Wd.same {w w' : World} {b k q : Nat} {F : Nat → Prop} {V L : List Tm} {lo : Option Addr} {lc : Nat} {x y u v : Value} (h : Wd w b k q F V L lo lc x y u v) (ht : Calm w w') : StpR w b k q F L lo x y u v (.returned (.bool true)) w' :=
  ⟨rfl, F, V, L, lo, lc, h.calm ht, by omega, fun _ h => .inl h, fun _ h => .inl ⟨h, rfl⟩, ht.mono fun _ _ h => h.elim⟩

theorem dropT_le (t : Tm) (L : List Tm) : (dropT t L).length ≤ L.length := List.length_filter_le ..

set_option maxRecDepth 100000 in
set_option maxHeartbeats 2000000 in
theorem step1_0 (b q : Nat) (F : Nat → Prop) (V L : List Tm) (lo : Option Addr) (lc : Nat) (x y u v : Value) (on leave : Int) (t tu : Tm) (upto : Int) (w : World) (h : Wd w b 0 q F V L lo lc x y u v) (hk : kOf on = 0) (gt : Good t) (gu : Good tu) (hl : L.length < 3518437208780) :
    Calls Try.prog 11 #[.pointer (some ⟨b, 0, none⟩), sv ⟨1, on, leave, t, tu, upto⟩] w (StpR w b 0 q F L lo x y u v) := by
  obtain ⟨s, es⟩ : ∃ s : Sp, s = ⟨1, on, leave, t, tu, upto⟩ := ⟨_, rfl⟩
  have hB := heap_alloc_last w (.cells (sc ⟨1, on, leave, t, tu, upto⟩) 41)
  have tA : Calm w (w.alloc (.cells (sc ⟨1, on, leave, t, tu, upto⟩) 41)) := (Touch.refl _ _).alloc _
  have HVL := hide h.len
  have HW := hide h
  have HLT : Hid (¬ F w.heap.size) := hide (fun e => by have := h.tq.lt _ e; omega)
  have edt : ∀ z, decide (z ∈ V) = decide (z ∈ L) := fun z => decide_eq_decide.2 (h.mem z)
  have HL9 := hide hl
  have HTA := hide tA
  have HHB := hide hB
  have hlv : V.length < 3518437208790 := by have := h.len; omega
  have SE := hide (set_any q F V t _ (h.tq.calm tA) gt hlv)
  obtain ⟨n, hn⟩ : ∃ n, L.length = n := ⟨_, rfl⟩
  have HN := hide hn
  obtain ⟨d0, d1, d2, ⟨d3, d4, d5, d6⟩, ⟨d7, d8, d9, d10⟩, d11⟩ := cells12 hB
  obtain ⟨e0, e1, e2, e3, e4, e5⟩ := cells6 (show (w.alloc (.cells (sc ⟨1, on, leave, t, tu, upto⟩) 41)).heap[b]? = some (.cells #[.pointer (some ⟨q, 0, none⟩), x, .slice lo n lc, y, u, v] 31 (0, 0)) from by have h9 := tA.at h.own; rw [hn] at h9; exact h9)
  have HGT := hide gt
  have HGU := hide gu
  unfold kOf at hk
  simp only at d0 d1 d2 d3 d4 d5 d6 d7 d8 d9 d10 d11
  clear h hB tA hl hlv gt gu hn es s
  go_enter Try.func11, Try.ntmps11
  go_wp2_with fail
  refine SE.out.mono ?_
  rintro e w1 ⟨he, ⟨V1, tq1, m1⟩, t1⟩
  rw [edt t] at he
  obtain ⟨c, ec⟩ : ∃ c, decide (t ∈ L) = c := ⟨_, rfl⟩
  rw [ec] at he
  have EC := hide ec
  subst he
  clear ec SE edt
  have T1 : Hid (Touch F w w1) := hide ((HTA.out.mono (S' := F) (fun _ _ h => h.elim)).trans t1 (fun _ _ h => h))
  have HS1 : Hid (w1.heap[w.heap.size]? = some (.cells (sc ⟨1, on, leave, t, tu, upto⟩) 41 (0, 0))) := hide (t1.heap HHB.out HLT.out)
  have R1 := hide (HW.out.rl.touch T1.out (fun a ha hn => (HW.out.row a ha hn).1))
  have OW1 : Hid (w1.heap[b]? = some (.cells #[.pointer (some ⟨q, 0, none⟩), x, .slice lo n lc, y, u, v] 31 (0, 0))) := hide (by have h9 := T1.out.heap HW.out.own HW.out.fb; rw [HN.out] at h9; exact h9)
  have RH := hide (rhas_any lo lc L t w1 R1.out.tms HW.out.srt (by have := HL9.out; omega))
  rw [HN.out] at RH
  have TQ1 := hide tq1
  have M1 := hide m1
  clear tq1 m1 t1 d0 d1 d2 d3 d4 d5 d6 d7 d8 d9 d10 d11 e0 e1 e2 e3 e4 e5
  obtain ⟨d0, d1, d2, ⟨d3, d4, d5, d6⟩, ⟨d7, d8, d9, d10⟩, d11⟩ := cells12 HS1.out
  simp only at d0 d1 d2 d3 d4 d5 d6 d7 d8 d9 d10 d11
  obtain ⟨B, eB⟩ : ∃ B, B = w.heap.size := ⟨_, rfl⟩
  rw [← eB] at HS1 d0 d1 d2 d3 d4 d5 d6 d7 d8 d9 d10 d11 ⊢
  clear eB
  go_wp2_with fail
  refine RH.out.mono ?_
  rintro e w2 ⟨he2, t2⟩
  rw [EC.out] at he2
  subst he2
  have T2 := hide t2
  have HS2 := hide (t2.at HS1.out)
  have OW2 := hide (t2.at OW1.out)
  clear t2 d0 d1 d2 d3 d4 d5 d6 d7 d8 d9 d10 d11 RH
  go_wp2_with fail
  refine wp_only ?_
  refine wp_region_z 9 (Calm w2) (by kernel_rfl) ?_
  have ty0 : Calm w2 { w2 with drawn := w2.drawn + 1 } := (Touch.refl (fun _ => False) w2).drew
  refine wpAnyZ_yield 0 55 (.pointer (some ⟨b, 0, none⟩)) [6,7,8,9] rfl rfl (by kernel_rfl) (by kernel_rfl) (by kernel_rfl) (by kernel_rfl) (by kernel_rfl) (fun _ _ _ h => h) (by kernel_rfl) (fun W hW => by kernel_rfl) (by assumption) rfl rfl ?_
  simp only [Act.put, List.setIfInBounds_toArray, List.set_cons_zero, List.set_cons_succ]
  refine wpAnyZ_yield 1 56 (.int .i64 0) [8,9] rfl rfl (by kernel_rfl) (by kernel_rfl) (by kernel_rfl) (by kernel_rfl) (by kernel_rfl) (fun _ _ _ h => h) (by kernel_rfl) (fun W hW => by kernel_rfl) (by assumption) rfl rfl ?_
  simp only [Act.put, List.setIfInBounds_toArray, List.set_cons_zero, List.set_cons_succ]
  refine wpAnyZ_yield 2 57 (.slice lo n lc) [5,9] rfl rfl (by kernel_rfl) (by kernel_rfl) (by kernel_rfl) (by kernel_rfl) (by kernel_rfl) (fun _ _ _ h => h) (by kernel_rfl) (fun W hW => by kernel_rfl) (by assumption) rfl rfl ?_
  simp only [Act.put, List.setIfInBounds_toArray, List.set_cons_zero, List.set_cons_succ]
  refine wpAnyZ_yield 3 58 (.pointer (some ⟨B, 3, none⟩)) [4,5,9] rfl rfl (by kernel_rfl) (by kernel_rfl) (by kernel_rfl) (by kernel_rfl) (by kernel_rfl) (fun _ _ _ h => h) (by kernel_rfl) (fun W hW => by go_simp) (by assumption) rfl rfl ?_
  simp only [Act.put, List.setIfInBounds_toArray, List.set_cons_zero, List.set_cons_succ]
  refine wpAnyZ_yield 4 59 (tv t) [5,9] rfl rfl (by kernel_rfl) (by kernel_rfl) (by kernel_rfl) (by kernel_rfl) (by kernel_rfl) (fun _ _ _ h => h) (by kernel_rfl) (fun W hW => by obtain ⟨-, -, -, ⟨d3, d4, d5, d6⟩, -⟩ := cells12 (hW.at HS2.out); go_simp) (by assumption) rfl rfl ?_
  simp only [Act.put, List.setIfInBounds_toArray, List.set_cons_zero, List.set_cons_succ]
  refine wpAnyZ_yield 6 61 (.pointer (some ⟨b, 0, none⟩)) [7,8,9] rfl rfl (by kernel_rfl) (by kernel_rfl) (by kernel_rfl) (by kernel_rfl) (by kernel_rfl) (fun _ _ _ h => h) (by kernel_rfl) (fun W hW => by go_simp) (by assumption) rfl rfl ?_
  simp only [Act.put, List.setIfInBounds_toArray, List.set_cons_zero, List.set_cons_succ]
  refine wpAnyZ_yield 7 62 (.pointer (some ⟨b, 2, none⟩)) [8,9] rfl rfl (by kernel_rfl) (by kernel_rfl) (by kernel_rfl) (by kernel_rfl) (by kernel_rfl) (fun _ _ _ h => h) (by kernel_rfl) (fun W hW => by go_simp) (by assumption) rfl rfl ?_
  simp only [Act.put, List.setIfInBounds_toArray, List.set_cons_zero, List.set_cons_succ]
  have RS := rset_any lo lc L t { w2 with drawn := w2.drawn + 1 } ((R1.out.calm T2.out).calm ty0) HW.out.srt (by have := HL9.out; omega)
  rw [HN.out] at RS
  refine wpAnyZ_enter 5 60 10 #[.slice lo n lc, tv t] rfl rfl (by decide) (by kernel_rfl) (by kernel_rfl) (by kernel_rfl) ?_
  refine RS.mono ?_
  rintro e w3 ⟨ao3, cap3, rfl, rl3, loc3, t3⟩
  have ty3 : Calm w2 w3 := ty0.tr t3
  refine ⟨_, rfl, ty3, ?_⟩
  simp only [Act.put, List.setIfInBounds_toArray, List.set_cons_zero, List.set_cons_succ]
  refine wpAnyZ_yield 8 63 (.pointer (some ⟨b, 2, none⟩)) [9] rfl rfl (by kernel_rfl) (by kernel_rfl) (by kernel_rfl) (by kernel_rfl) (by kernel_rfl) (fun _ _ _ h => h) (by kernel_rfl) (fun W hW => by go_simp) (by assumption) rfl rfl ?_
  simp only [Act.put, List.setIfInBounds_toArray, List.set_cons_zero, List.set_cons_succ]
  have RES : Hid (StpR w b 0 q F L lo x y u v (.returned (.bool true)) (w3.setCell ⟨b, 2, none⟩ (.slice ao3 (setT t L).length cap3))) := hide (HW.out.fin (k := 0) (by decide) T1.out TQ1.out (fun g hg => hg.imp id (fun h => by have := HTA.out.size; omega)) (T2.out.tr ty3) (HW.out.srt.set t) (fun z => by rw [M1.out, setT_mem, HW.out.mem]) rl3 (fun a ha => (loc3 a ha).imp id (fun h => Nat.le_trans (T2.out.tr ty0).size h)) (setT_len t L))
  obtain ⟨m, em⟩ : ∃ m, (setT t L).length = m := ⟨_, rfl⟩
  rw [em] at RES ⊢
  clear em RS rl3 loc3 t3
  refine wpAnyZ_end rfl (by kernel_rfl) (by kernel_rfl) (by kernel_rfl) ?_
  have OW3 := ty3.at OW2.out
  obtain ⟨e0, e1, e2, e3, e4, e5⟩ := cells6 OW3
  have fz : w3.frozen? ⟨b, 2, none⟩ = false := by simp [World.frozen?, OW3]
  unfold Oper.wp
  go_simp
  rw [onlyN_normal]
  clear OW3 ty0 ty3 e0 e1 e2 e3 e4 e5 fz
  cases c <;>
  · go_wp2_with fail
    go_ret
    exact RES.out

set_option maxRecDepth 100000 in
set_option maxHeartbeats 2000000 in
theorem step1_1 (b q : Nat) (F : Nat → Prop) (V L : List Tm) (lo : Option Addr) (lc : Nat) (x y u v : Value) (on leave : Int) (t tu : Tm) (upto : Int) (w : World) (h : Wd w b 1 q F V L lo lc x y u v) (hk : kOf on = 1) (gt : Good t) (gu : Good tu) (hl : L.length < 3518437208780) :
    Calls Try.prog 11 #[.pointer (some ⟨b, 0, none⟩), sv ⟨1, on, leave, t, tu, upto⟩] w (StpR w b 1 q F L lo x y u v) := by
  obtain ⟨s, es⟩ : ∃ s : Sp, s = ⟨1, on, leave, t, tu, upto⟩ := ⟨_, rfl⟩
  have hB := heap_alloc_last w (.cells (sc ⟨1, on, leave, t, tu, upto⟩) 41)
  have tA : Calm w (w.alloc (.cells (sc ⟨1, on, leave, t, tu, upto⟩) 41)) := (Touch.refl _ _).alloc _
  have HVL := hide h.len
  have HW := hide h
  have HLT : Hid (¬ F w.heap.size) := hide (fun e => by have := h.tq.lt _ e; omega)
  have edt : ∀ z, decide (z ∈ V) = decide (z ∈ L) := fun z => decide_eq_decide.2 (h.mem z)
  have HL9 := hide hl
  have HTA := hide tA
  have HHB := hide hB
  have hlv : V.length < 3518437208790 := by have := h.len; omega
  have SE := hide (set_any q F V t _ (h.tq.calm tA) gt hlv)
  obtain ⟨n, hn⟩ : ∃ n, L.length = n := ⟨_, rfl⟩
  have HN := hide hn
  obtain ⟨d0, d1, d2, ⟨d3, d4, d5, d6⟩, ⟨d7, d8, d9, d10⟩, d11⟩ := cells12 hB
  obtain ⟨e0, e1, e2, e3, e4, e5⟩ := cells6 (show (w.alloc (.cells (sc ⟨1, on, leave, t, tu, upto⟩) 41)).heap[b]? = some (.cells #[x, .pointer (some ⟨q, 0, none⟩), y, .slice lo n lc, u, v] 31 (0, 0)) from by have h9 := tA.at h.own; rw [hn] at h9; exact h9)
  have HGT := hide gt
  have HGU := hide gu
  unfold kOf at hk
  simp only at d0 d1 d2 d3 d4 d5 d6 d7 d8 d9 d10 d11
  clear h hB tA hl hlv gt gu hn es s
  go_enter Try.func11, Try.ntmps11
  go_wp2_with fail
  refine SE.out.mono ?_
  rintro e w1 ⟨he, ⟨V1, tq1, m1⟩, t1⟩
  rw [edt t] at he
  obtain ⟨c, ec⟩ : ∃ c, decide (t ∈ L) = c := ⟨_, rfl⟩
  rw [ec] at he
  have EC := hide ec
  subst he
  clear ec SE edt
  have T1 : Hid (Touch F w w1) := hide ((HTA.out.mono (S' := F) (fun _ _ h => h.elim)).trans t1 (fun _ _ h => h))
  have HS1 : Hid (w1.heap[w.heap.size]? = some (.cells (sc ⟨1, on, leave, t, tu, upto⟩) 41 (0, 0))) := hide (t1.heap HHB.out HLT.out)
  have R1 := hide (HW.out.rl.touch T1.out (fun a ha hn => (HW.out.row a ha hn).1))
  have OW1 : Hid (w1.heap[b]? = some (.cells #[x, .pointer (some ⟨q, 0, none⟩), y, .slice lo n lc, u, v] 31 (0, 0))) := hide (by have h9 := T1.out.heap HW.out.own HW.out.fb; rw [HN.out] at h9; exact h9)
  have RH := hide (rhas_any lo lc L t w1 R1.out.tms HW.out.srt (by have := HL9.out; omega))
  rw [HN.out] at RH
  have TQ1 := hide tq1
  have M1 := hide m1
  clear tq1 m1 t1 d0 d1 d2 d3 d4 d5 d6 d7 d8 d9 d10 d11 e0 e1 e2 e3 e4 e5
  obtain ⟨d0, d1, d2, ⟨d3, d4, d5, d6⟩, ⟨d7, d8, d9, d10⟩, d11⟩ := cells12 HS1.out
  simp only at d0 d1 d2 d3 d4 d5 d6 d7 d8 d9 d10 d11
  obtain ⟨B, eB⟩ : ∃ B, B = w.heap.size := ⟨_, rfl⟩
  rw [← eB] at HS1 d0 d1 d2 d3 d4 d5 d6 d7 d8 d9 d10 d11 ⊢
  clear eB
  go_wp2_with fail
  refine RH.out.mono ?_
  rintro e w2 ⟨he2, t2⟩
  rw [EC.out] at he2
  subst he2
  have T2 := hide t2
  have HS2 := hide (t2.at HS1.out)
  have OW2 := hide (t2.at OW1.out)
  clear t2 d0 d1 d2 d3 d4 d5 d6 d7 d8 d9 d10 d11 RH
  go_wp2_with fail
  refine wp_only ?_
  refine wp_region_z 9 (Calm w2) (by kernel_rfl) ?_
  have ty0 : Calm w2 { w2 with drawn := w2.drawn + 1 } := (Touch.refl (fun _ => False) w2).drew
  refine wpAnyZ_yield 0 55 (.pointer (some ⟨b, 0, none⟩)) [6,7,8,9] rfl rfl (by kernel_rfl) (by kernel_rfl) (by kernel_rfl) (by kernel_rfl) (by kernel_rfl) (fun _ _ _ h => h) (by kernel_rfl) (fun W hW => by kernel_rfl) (by assumption) rfl rfl ?_
  simp only [Act.put, List.setIfInBounds_toArray, List.set_cons_zero, List.set_cons_succ]
  refine wpAnyZ_yield 1 56 (.int .i64 1) [8,9] rfl rfl (by kernel_rfl) (by kernel_rfl) (by kernel_rfl) (by kernel_rfl) (by kernel_rfl) (fun _ _ _ h => h) (by kernel_rfl) (fun W hW => by kernel_rfl) (by assumption) rfl rfl ?_
  simp only [Act.put, List.setIfInBounds_toArray, List.set_cons_zero, List.set_cons_succ]
  refine wpAnyZ_yield 2 57 (.slice lo n lc) [5,9] rfl rfl (by kernel_rfl) (by kernel_rfl) (by kernel_rfl) (by kernel_rfl) (by kernel_rfl) (fun _ _ _ h => h) (by kernel_rfl) (fun W hW => by kernel_rfl) (by assumption) rfl rfl ?_
  simp only [Act.put, List.setIfInBounds_toArray, List.set_cons_zero, List.set_cons_succ]
  refine wpAnyZ_yield 3 58 (.pointer (some ⟨B, 3, none⟩)) [4,5,9] rfl rfl (by kernel_rfl) (by kernel_rfl) (by kernel_rfl) (by kernel_rfl) (by kernel_rfl) (fun _ _ _ h => h) (by kernel_rfl) (fun W hW => by go_simp) (by assumption) rfl rfl ?_
  simp only [Act.put, List.setIfInBounds_toArray, List.set_cons_zero, List.set_cons_succ]
  refine wpAnyZ_yield 4 59 (tv t) [5,9] rfl rfl (by kernel_rfl) (by kernel_rfl) (by kernel_rfl) (by kernel_rfl) (by kernel_rfl) (fun _ _ _ h => h) (by kernel_rfl) (fun W hW => by obtain ⟨-, -, -, ⟨d3, d4, d5, d6⟩, -⟩ := cells12 (hW.at HS2.out); go_simp) (by assumption) rfl rfl ?_
  simp only [Act.put, List.setIfInBounds_toArray, List.set_cons_zero, List.set_cons_succ]
  refine wpAnyZ_yield 6 61 (.pointer (some ⟨b, 0, none⟩)) [7,8,9] rfl rfl (by kernel_rfl) (by kernel_rfl) (by kernel_rfl) (by kernel_rfl) (by kernel_rfl) (fun _ _ _ h => h) (by kernel_rfl) (fun W hW => by go_simp) (by assumption) rfl rfl ?_
  simp only [Act.put, List.setIfInBounds_toArray, List.set_cons_zero, List.set_cons_succ]
  refine wpAnyZ_yield 7 62 (.pointer (some ⟨b, 2, none⟩)) [8,9] rfl rfl (by kernel_rfl) (by kernel_rfl) (by kernel_rfl) (by kernel_rfl) (by kernel_rfl) (fun _ _ _ h => h) (by kernel_rfl) (fun W hW => by go_simp) (by assumption) rfl rfl ?_
  simp only [Act.put, List.setIfInBounds_toArray, List.set_cons_zero, List.set_cons_succ]
  have RS := rset_any lo lc L t { w2 with drawn := w2.drawn + 1 } ((R1.out.calm T2.out).calm ty0) HW.out.srt (by have := HL9.out; omega)
  rw [HN.out] at RS
  refine wpAnyZ_enter 5 60 10 #[.slice lo n lc, tv t] rfl rfl (by decide) (by kernel_rfl) (by kernel_rfl) (by kernel_rfl) ?_
  refine RS.mono ?_
  rintro e w3 ⟨ao3, cap3, rfl, rl3, loc3, t3⟩
  have ty3 : Calm w2 w3 := ty0.tr t3
  refine ⟨_, rfl, ty3, ?_⟩
  simp only [Act.put, List.setIfInBounds_toArray, List.set_cons_zero, List.set_cons_succ]
  refine wpAnyZ_yield 8 63 (.pointer (some ⟨b, 3, none⟩)) [9] rfl rfl (by kernel_rfl) (by kernel_rfl) (by kernel_rfl) (by kernel_rfl) (by kernel_rfl) (fun _ _ _ h => h) (by kernel_rfl) (fun W hW => by go_simp) (by assumption) rfl rfl ?_
  simp only [Act.put, List.setIfInBounds_toArray, List.set_cons_zero, List.set_cons_succ]
  have RES : Hid (StpR w b 1 q F L lo x y u v (.returned (.bool true)) (w3.setCell ⟨b, 3, none⟩ (.slice ao3 (setT t L).length cap3))) := hide (HW.out.fin (k := 1) (by decide) T1.out TQ1.out (fun g hg => hg.imp id (fun h => by have := HTA.out.size; omega)) (T2.out.tr ty3) (HW.out.srt.set t) (fun z => by rw [M1.out, setT_mem, HW.out.mem]) rl3 (fun a ha => (loc3 a ha).imp id (fun h => Nat.le_trans (T2.out.tr ty0).size h)) (setT_len t L))
  obtain ⟨m, em⟩ : ∃ m, (setT t L).length = m := ⟨_, rfl⟩
  rw [em] at RES ⊢
  clear em RS rl3 loc3 t3
  refine wpAnyZ_end rfl (by kernel_rfl) (by kernel_rfl) (by kernel_rfl) ?_
  have OW3 := ty3.at OW2.out
  obtain ⟨e0, e1, e2, e3, e4, e5⟩ := cells6 OW3
  have fz : w3.frozen? ⟨b, 3, none⟩ = false := by simp [World.frozen?, OW3]
  unfold Oper.wp
  go_simp
  rw [onlyN_normal]
  clear OW3 ty0 ty3 e0 e1 e2 e3 e4 e5 fz
  cases c <;>
  · go_wp2_with fail
    go_ret
    exact RES.out

end Go.Proofs.Ytlnblhajcbmmkaa
