/- The verifier's step: kind 3. -/
import Derived.Test.YtlnblhajcbmmkaaTStp1
namespace Go.Proofs.Ytlnblhajcbmmkaa
open Go.RowKit

set_option maxRecDepth 100000 in
set_option maxHeartbeats 2000000 in
theorem step3_0 (b q : Nat) (F : Nat → Prop) (V L : List Tm) (lo : Option Addr) (lc : Nat) (x y u v : Value) (on leave : Int) (t tu : Tm) (upto : Int) (w : World) (h : Wd w b 0 q F V L lo lc x y u v) (hk : kOf on = 0) (gt : Good t) (gu : Good tu) (hl : L.length < 3518437208780) :
    Calls Try.prog 11 #[.pointer (some ⟨b, 0, none⟩), sv ⟨3, on, leave, t, tu, upto⟩] w (StpR w b 0 q F L lo x y u v) := by
  obtain ⟨s, es⟩ : ∃ s : Sp, s = ⟨3, on, leave, t, tu, upto⟩ := ⟨_, rfl⟩
  have hB := heap_alloc_last w (.cells (sc ⟨3, on, leave, t, tu, upto⟩) 41)
  have tA : Calm w (w.alloc (.cells (sc ⟨3, on, leave, t, tu, upto⟩) 41)) := (Touch.refl _ _).alloc _
  have HVL := hide h.len
  have HW := hide h
  have HLT : Hid (¬ F w.heap.size) := hide (fun e => by have := h.tq.lt _ e; omega)
  have edt : ∀ z, decide (z ∈ V) = decide (z ∈ L) := fun z => decide_eq_decide.2 (h.mem z)
  have HL9 := hide hl
  have HTA := hide tA
  have HHB := hide hB
  have hlv : V.length < 3518437208790 := by have := h.len; omega
  have SE := hide (move_any q F V t tu _ (h.tq.calm tA) gt gu hlv)
  obtain ⟨n, hn⟩ : ∃ n, L.length = n := ⟨_, rfl⟩
  have HN := hide hn
  obtain ⟨d0, d1, d2, ⟨d3, d4, d5, d6⟩, ⟨d7, d8, d9, d10⟩, d11⟩ := cells12 hB
  obtain ⟨e0, e1, e2, e3, e4, e5⟩ := cells6 (show (w.alloc (.cells (sc ⟨3, on, leave, t, tu, upto⟩) 41)).heap[b]? = some (.cells #[.pointer (some ⟨q, 0, none⟩), x, .slice lo n lc, y, u, v] 31 (0, 0)) from by have h9 := tA.at h.own; rw [hn] at h9; exact h9)
  have HGT := hide gt
  have HGU := hide gu
  unfold kOf at hk
  simp only at d0 d1 d2 d3 d4 d5 d6 d7 d8 d9 d10 d11
  clear h hB tA hl hlv gt gu hn es s
  go_enter Try.func11, Try.ntmps11
  go_wp2_with fail
  refine SE.out.mono ?_
  rintro e w1 ⟨he, ⟨V1, tq1, m1⟩, t1⟩
  rw [edt t] at he
  obtain ⟨c, ec⟩ : ∃ c, decide (t ∈ L) = c := ⟨_, rfl⟩
  rw [ec] at he
  have EC := hide ec
  subst he
  clear ec SE edt
  have T1 : Hid (Touch F w w1) := hide ((HTA.out.mono (S' := F) (fun _ _ h => h.elim)).trans t1 (fun _ _ h => h))
  have HS1 : Hid (w1.heap[w.heap.size]? = some (.cells (sc ⟨3, on, leave, t, tu, upto⟩) 41 (0, 0))) := hide (t1.heap HHB.out HLT.out)
  have R1 := hide (HW.out.rl.touch T1.out (fun a ha hn => (HW.out.row a ha hn).1))
  have OW1 : Hid (w1.heap[b]? = some (.cells #[.pointer (some ⟨q, 0, none⟩), x, .slice lo n lc, y, u, v] 31 (0, 0))) := hide (by have h9 := T1.out.heap HW.out.own HW.out.fb; rw [HN.out] at h9; exact h9)
  have RH := hide (rhas_any lo lc L t w1 R1.out.tms HW.out.srt (by have := HL9.out; omega))
  rw [HN.out] at RH
  have TQ1 := hide tq1
  have M1 := hide m1
  clear tq1 m1 t1 d0 d1 d2 d3 d4 d5 d6 d7 d8 d9 d10 d11 e0 e1 e2 e3 e4 e5
  obtain ⟨d0, d1, d2, ⟨d3, d4, d5, d6⟩, ⟨d7, d8, d9, d10⟩, d11⟩ := cells12 HS1.out
  simp only at d0 d1 d2 d3 d4 d5 d6 d7 d8 d9 d10 d11
  obtain ⟨B, eB⟩ : ∃ B, B = w.heap.size := ⟨_, rfl⟩
  rw [← eB] at HS1 d0 d1 d2 d3 d4 d5 d6 d7 d8 d9 d10 d11 ⊢
  clear eB
  go_wp2_with fail
  refine RH.out.mono ?_
  rintro e w2 ⟨he2, t2⟩
  rw [EC.out] at he2
  subst he2
  have T2 := hide t2
  have HS2 := hide (t2.at HS1.out)
  have OW2 := hide (t2.at OW1.out)
  clear t2 d0 d1 d2 d3 d4 d5 d6 d7 d8 d9 d10 d11 RH
  go_wp2_with fail
  refine wp_only ?_
  refine wp_region_z 12 (Calm w2) (by kernel_rfl) ?_
  have ty0 : Calm w2 { w2 with drawn := w2.drawn + 1 } := (Touch.refl (fun _ => False) w2).drew
  refine wpAnyZ_yield 0 109 (.pointer (some ⟨b, 0, none⟩)) [9,10,11,12] rfl rfl (by kernel_rfl) (by kernel_rfl) (by kernel_rfl) (by kernel_rfl) (by kernel_rfl) (fun _ _ _ h => h) (by kernel_rfl) (fun W hW => by kernel_rfl) (by assumption) rfl rfl ?_
  simp only [Act.put, List.setIfInBounds_toArray, List.set_cons_zero, List.set_cons_succ]
  refine wpAnyZ_yield 1 110 (.int .i64 0) [11,12] rfl rfl (by kernel_rfl) (by kernel_rfl) (by kernel_rfl) (by kernel_rfl) (by kernel_rfl) (fun _ _ _ h => h) (by kernel_rfl) (fun W hW => by kernel_rfl) (by assumption) rfl rfl ?_
  simp only [Act.put, List.setIfInBounds_toArray, List.set_cons_zero, List.set_cons_succ]
  refine wpAnyZ_yield 2 111 (.slice lo n lc) [5,8,12] rfl rfl (by kernel_rfl) (by kernel_rfl) (by kernel_rfl) (by kernel_rfl) (by kernel_rfl) (fun _ _ _ h => h) (by kernel_rfl) (fun W hW => by kernel_rfl) (by assumption) rfl rfl ?_
  simp only [Act.put, List.setIfInBounds_toArray, List.set_cons_zero, List.set_cons_succ]
  refine wpAnyZ_yield 3 112 (.pointer (some ⟨B, 3, none⟩)) [4,5,8,12] rfl rfl (by kernel_rfl) (by kernel_rfl) (by kernel_rfl) (by kernel_rfl) (by kernel_rfl) (fun _ _ _ h => h) (by kernel_rfl) (fun W hW => by go_simp) (by assumption) rfl rfl ?_
  simp only [Act.put, List.setIfInBounds_toArray, List.set_cons_zero, List.set_cons_succ]
  refine wpAnyZ_yield 4 113 (tv t) [5,8,12] rfl rfl (by kernel_rfl) (by kernel_rfl) (by kernel_rfl) (by kernel_rfl) (by kernel_rfl) (fun _ _ _ h => h) (by kernel_rfl) (fun W hW => by obtain ⟨-, -, -, ⟨d3, d4, d5, d6⟩, -⟩ := cells12 (hW.at HS2.out); go_simp) (by assumption) rfl rfl ?_
  simp only [Act.put, List.setIfInBounds_toArray, List.set_cons_zero, List.set_cons_succ]
  refine wpAnyZ_yield 6 115 (.pointer (some ⟨B, 7, none⟩)) [7,8,12] rfl rfl (by kernel_rfl) (by kernel_rfl) (by kernel_rfl) (by kernel_rfl) (by kernel_rfl) (fun _ _ _ h => h) (by kernel_rfl) (fun W hW => by go_simp) (by assumption) rfl rfl ?_
  simp only [Act.put, List.setIfInBounds_toArray, List.set_cons_zero, List.set_cons_succ]
  refine wpAnyZ_yield 7 116 (tv tu) [8,12] rfl rfl (by kernel_rfl) (by kernel_rfl) (by kernel_rfl) (by kernel_rfl) (by kernel_rfl) (fun _ _ _ h => h) (by kernel_rfl) (fun W hW => by obtain ⟨-, -, -, -, ⟨d7, d8, d9, d10⟩, -⟩ := cells12 (hW.at HS2.out); go_simp) (by assumption) rfl rfl ?_
  simp only [Act.put, List.setIfInBounds_toArray, List.set_cons_zero, List.set_cons_succ]
  refine wpAnyZ_yield 9 118 (.pointer (some ⟨b, 0, none⟩)) [10,11,12] rfl rfl (by kernel_rfl) (by kernel_rfl) (by kernel_rfl) (by kernel_rfl) (by kernel_rfl) (fun _ _ _ h => h) (by kernel_rfl) (fun W hW => by go_simp) (by assumption) rfl rfl ?_
  simp only [Act.put, List.setIfInBounds_toArray, List.set_cons_zero, List.set_cons_succ]
  refine wpAnyZ_yield 10 119 (.pointer (some ⟨b, 2, none⟩)) [11,12] rfl rfl (by kernel_rfl) (by kernel_rfl) (by kernel_rfl) (by kernel_rfl) (by kernel_rfl) (fun _ _ _ h => h) (by kernel_rfl) (fun W hW => by go_simp) (by assumption) rfl rfl ?_
  simp only [Act.put, List.setIfInBounds_toArray, List.set_cons_zero, List.set_cons_succ]
  have RD := rdrop_any lo lc L t { w2 with drawn := w2.drawn + 1 } ((R1.out.calm T2.out).calm ty0) (by have := HL9.out; omega)
  rw [HN.out] at RD
  refine wpAnyZ_enter 5 114 26 #[.slice lo n lc, tv t] rfl rfl (by decide) (by kernel_rfl) (by kernel_rfl) (by kernel_rfl) ?_
  refine RD.mono ?_
  rintro e wd ⟨aod, capd, rfl, rld, locd, td⟩
  have tyd : Calm w2 wd := ty0.tr td
  refine ⟨_, rfl, tyd, ?_⟩
  simp only [Act.put, List.setIfInBounds_toArray, List.set_cons_zero, List.set_cons_succ]
  have RS := rset_any aod capd (dropT t L) tu wd rld (HW.out.srt.drop t) (by have := HL9.out; have := dropT_le t L; omega)
  obtain ⟨md, emd⟩ : ∃ md, (dropT t L).length = md := ⟨_, rfl⟩
  have EMD := hide emd
  rw [emd] at RS ⊢
  clear emd
  refine wpAnyZ_enter 8 117 10 #[.slice aod md capd, tv tu] rfl rfl (by decide) (by kernel_rfl) (by kernel_rfl) (by kernel_rfl) ?_
  refine RS.mono ?_
  rintro e w3 ⟨ao3, cap3, rfl, rl3, loc3, t3⟩
  have ty3 : Calm w2 w3 := tyd.tr t3
  refine ⟨_, rfl, ty3, ?_⟩
  simp only [Act.put, List.setIfInBounds_toArray, List.set_cons_zero, List.set_cons_succ]
  refine wpAnyZ_yield 11 120 (.pointer (some ⟨b, 2, none⟩)) [12] rfl rfl (by kernel_rfl) (by kernel_rfl) (by kernel_rfl) (by kernel_rfl) (by kernel_rfl) (fun _ _ _ h => h) (by kernel_rfl) (fun W hW => by go_simp) (by assumption) rfl rfl ?_
  simp only [Act.put, List.setIfInBounds_toArray, List.set_cons_zero, List.set_cons_succ]
  have RES : Hid (StpR w b 0 q F L lo x y u v (.returned (.bool true)) (w3.setCell ⟨b, 2, none⟩ (.slice ao3 (setT tu (dropT t L)).length cap3))) := hide (HW.out.fin (k := 0) (by decide) T1.out TQ1.out (fun g hg => hg.imp id (fun h => by have := HTA.out.size; omega)) (T2.out.tr ty3) ((HW.out.srt.drop t).set tu) (fun z => by rw [M1.out, setT_mem, dropT_mem, HW.out.mem]) rl3 (fun a ha => by
    rcases loc3 a ha with ⟨h1, h2⟩ | h1
    · exact (locd a h1).imp (fun h => ⟨h.1, h2.trans h.2⟩) (fun h => Nat.le_trans (T2.out.tr ty0).size h)
    · exact .inr (Nat.le_trans (T2.out.tr tyd).size h1)) (by have h1 := setT_len tu (dropT t L); have h2 := dropT_le t L; omega))
  obtain ⟨m, em⟩ : ∃ m, (setT tu (dropT t L)).length = m := ⟨_, rfl⟩
  rw [em] at RES ⊢
  clear em RS RD rl3 loc3 t3 rld locd td tyd
  refine wpAnyZ_end rfl (by kernel_rfl) (by kernel_rfl) (by kernel_rfl) ?_
  have OW3 := ty3.at OW2.out
  obtain ⟨e0, e1, e2, e3, e4, e5⟩ := cells6 OW3
  have fz : w3.frozen? ⟨b, 2, none⟩ = false := by simp [World.frozen?, OW3]
  unfold Oper.wp
  go_simp
  rw [onlyN_normal]
  clear OW3 ty0 ty3 e0 e1 e2 e3 e4 e5 fz
  cases c <;>
  · go_wp2_with fail
    go_ret
    exact RES.out

set_option maxRecDepth 100000 in
set_option maxHeartbeats 2000000 in
theorem step3_1 (b q : Nat) (F : Nat → Prop) (V L : List Tm) (lo : Option Addr) (lc : Nat) (x y u v : Value) (on leave : Int) (t tu : Tm) (upto : Int) (w : World) (h : Wd w b 1 q F V L lo lc x y u v) (hk : kOf on = 1) (gt : Good t) (gu : Good tu) (hl : L.length < 3518437208780) :
    Calls Try.prog 11 #[.pointer (some ⟨b, 0, none⟩), sv ⟨3, on, leave, t, tu, upto⟩] w (StpR w b 1 q F L lo x y u v) := by
  obtain ⟨s, es⟩ : ∃ s : Sp, s = ⟨3, on, leave, t, tu, upto⟩ := ⟨_, rfl⟩
  have hB := heap_alloc_last w (.cells (sc ⟨3, on, leave, t, tu, upto⟩) 41)
  have tA : Calm w (w.alloc (.cells (sc ⟨3, on, leave, t, tu, upto⟩) 41)) := (Touch.refl _ _).alloc _
  have HVL := hide h.len
  have HW := hide h
  have HLT : Hid (¬ F w.heap.size) := hide (fun e => by have := h.tq.lt _ e; omega)
  have edt : ∀ z, decide (z ∈ V) = decide (z ∈ L) := fun z => decide_eq_decide.2 (h.mem z)
  have HL9 := hide hl
  have HTA := hide tA
  have HHB := hide hB
  have hlv : V.length < 3518437208790 := by have := h.len; omega
  have SE := hide (move_any q F V t tu _ (h.tq.calm tA) gt gu hlv)
  obtain ⟨n, hn⟩ : ∃ n, L.length = n := ⟨_, rfl⟩
  have HN := hide hn
  obtain ⟨d0, d1, d2, ⟨d3, d4, d5, d6⟩, ⟨d7, d8, d9, d10⟩, d11⟩ := cells12 hB
  obtain ⟨e0, e1, e2, e3, e4, e5⟩ := cells6 (show (w.alloc (.cells (sc ⟨3, on, leave, t, tu, upto⟩) 41)).heap[b]? = some (.cells #[x, .pointer (some ⟨q, 0, none⟩), y, .slice lo n lc, u, v] 31 (0, 0)) from by have h9 := tA.at h.own; rw [hn] at h9; exact h9)
  have HGT := hide gt
  have HGU := hide gu
  unfold kOf at hk
  simp only at d0 d1 d2 d3 d4 d5 d6 d7 d8 d9 d10 d11
  clear h hB tA hl hlv gt gu hn es s
  go_enter Try.func11, Try.ntmps11
  go_wp2_with fail
  refine SE.out.mono ?_
  rintro e w1 ⟨he, ⟨V1, tq1, m1⟩, t1⟩
  rw [edt t] at he
  obtain ⟨c, ec⟩ : ∃ c, decide (t ∈ L) = c := ⟨_, rfl⟩
  rw [ec] at he
  have EC := hide ec
  subst he
  clear ec SE edt
  have T1 : Hid (Touch F w w1) := hide ((HTA.out.mono (S' := F) (fun _ _ h => h.elim)).trans t1 (fun _ _ h => h))
  have HS1 : Hid (w1.heap[w.heap.size]? = some (.cells (sc ⟨3, on, leave, t, tu, upto⟩) 41 (0, 0))) := hide (t1.heap HHB.out HLT.out)
  have R1 := hide (HW.out.rl.touch T1.out (fun a ha hn => (HW.out.row a ha hn).1))
  have OW1 : Hid (w1.heap[b]? = some (.cells #[x, .pointer (some ⟨q, 0, none⟩), y, .slice lo n lc, u, v] 31 (0, 0))) := hide (by have h9 := T1.out.heap HW.out.own HW.out.fb; rw [HN.out] at h9; exact h9)
  have RH := hide (rhas_any lo lc L t w1 R1.out.tms HW.out.srt (by have := HL9.out; omega))
  rw [HN.out] at RH
  have TQ1 := hide tq1
  have M1 := hide m1
  clear tq1 m1 t1 d0 d1 d2 d3 d4 d5 d6 d7 d8 d9 d10 d11 e0 e1 e2 e3 e4 e5
  obtain ⟨d0, d1, d2, ⟨d3, d4, d5, d6⟩, ⟨d7, d8, d9, d10⟩, d11⟩ := cells12 HS1.out
  simp only at d0 d1 d2 d3 d4 d5 d6 d7 d8 d9 d10 d11
  obtain ⟨B, eB⟩ : ∃ B, B = w.heap.size := ⟨_, rfl⟩
  rw [← eB] at HS1 d0 d1 d2 d3 d4 d5 d6 d7 d8 d9 d10 d11 ⊢
  clear eB
  go_wp2_with fail
  refine RH.out.mono ?_
  rintro e w2 ⟨he2, t2⟩
  rw [EC.out] at he2
  subst he2
  have T2 := hide t2
  have HS2 := hide (t2.at HS1.out)
  have OW2 := hide (t2.at OW1.out)
  clear t2 d0 d1 d2 d3 d4 d5 d6 d7 d8 d9 d10 d11 RH
  go_wp2_with fail
  refine wp_only ?_
  refine wp_region_z 12 (Calm w2) (by kernel_rfl) ?_
  have ty0 : Calm w2 { w2 with drawn := w2.drawn + 1 } := (Touch.refl (fun _ => False) w2).drew
  refine wpAnyZ_yield 0 109 (.pointer (some ⟨b, 0, none⟩)) [9,10,11,12] rfl rfl (by kernel_rfl) (by kernel_rfl) (by kernel_rfl) (by kernel_rfl) (by kernel_rfl) (fun _ _ _ h => h) (by kernel_rfl) (fun W hW => by kernel_rfl) (by assumption) rfl rfl ?_
  simp only [Act.put, List.setIfInBounds_toArray, List.set_cons_zero, List.set_cons_succ]
  refine wpAnyZ_yield 1 110 (.int .i64 1) [11,12] rfl rfl (by kernel_rfl) (by kernel_rfl) (by kernel_rfl) (by kernel_rfl) (by kernel_rfl) (fun _ _ _ h => h) (by kernel_rfl) (fun W hW => by kernel_rfl) (by assumption) rfl rfl ?_
  simp only [Act.put, List.setIfInBounds_toArray, List.set_cons_zero, List.set_cons_succ]
  refine wpAnyZ_yield 2 111 (.slice lo n lc) [5,8,12] rfl rfl (by kernel_rfl) (by kernel_rfl) (by kernel_rfl) (by kernel_rfl) (by kernel_rfl) (fun _ _ _ h => h) (by kernel_rfl) (fun W hW => by kernel_rfl) (by assumption) rfl rfl ?_
  simp only [Act.put, List.setIfInBounds_toArray, List.set_cons_zero, List.set_cons_succ]
  refine wpAnyZ_yield 3 112 (.pointer (some ⟨B, 3, none⟩)) [4,5,8,12] rfl rfl (by kernel_rfl) (by kernel_rfl) (by kernel_rfl) (by kernel_rfl) (by kernel_rfl) (fun _ _ _ h => h) (by kernel_rfl) (fun W hW => by go_simp) (by assumption) rfl rfl ?_
  simp only [Act.put, List.setIfInBounds_toArray, List.set_cons_zero, List.set_cons_succ]
  refine wpAnyZ_yield 4 113 (tv t) [5,8,12] rfl rfl (by kernel_rfl) (by kernel_rfl) (by kernel_rfl) (by kernel_rfl) (by kernel_rfl) (fun _ _ _ h => h) (by kernel_rfl) (fun W hW => by obtain ⟨-, -, -, ⟨d3, d4, d5, d6⟩, -⟩ := cells12 (hW.at HS2.out); go_simp) (by assumption) rfl rfl ?_
  simp only [Act.put, List.setIfInBounds_toArray, List.set_cons_zero, List.set_cons_succ]
  refine wpAnyZ_yield 6 115 (.pointer (some ⟨B, 7, none⟩)) [7,8,12] rfl rfl (by kernel_rfl) (by kernel_rfl) (by kernel_rfl) (by kernel_rfl) (by kernel_rfl) (fun _ _ _ h => h) (by kernel_rfl) (fun W hW => by go_simp) (by assumption) rfl rfl ?_
  simp only [Act.put, List.setIfInBounds_toArray, List.set_cons_zero, List.set_cons_succ]
  refine wpAnyZ_yield 7 116 (tv tu) [8,12] rfl rfl (by kernel_rfl) (by kernel_rfl) (by kernel_rfl) (by kernel_rfl) (by kernel_rfl) (fun _ _ _ h => h) (by kernel_rfl) (fun W hW => by obtain ⟨-, -, -, -, ⟨d7, d8, d9, d10⟩, -⟩ := cells12 (hW.at HS2.out); go_simp) (by assumption) rfl rfl ?_
  simp only [Act.put, List.setIfInBounds_toArray, List.set_cons_zero, List.set_cons_succ]
  refine wpAnyZ_yield 9 118 (.pointer (some ⟨b, 0, none⟩)) [10,11,12] rfl rfl (by kernel_rfl) (by kernel_rfl) (by kernel_rfl) (by kernel_rfl) (by kernel_rfl) (fun _ _ _ h => h) (by kernel_rfl) (fun W hW => by go_simp) (by assumption) rfl rfl ?_
  simp only [Act.put, List.setIfInBounds_toArray, List.set_cons_zero, List.set_cons_succ]
  refine wpAnyZ_yield 10 119 (.pointer (some ⟨b, 2, none⟩)) [11,12] rfl rfl (by kernel_rfl) (by kernel_rfl) (by kernel_rfl) (by kernel_rfl) (by kernel_rfl) (fun _ _ _ h => h) (by kernel_rfl) (fun W hW => by go_simp) (by assumption) rfl rfl ?_
  simp only [Act.put, List.setIfInBounds_toArray, List.set_cons_zero, List.set_cons_succ]
  have RD := rdrop_any lo lc L t { w2 with drawn := w2.drawn + 1 } ((R1.out.calm T2.out).calm ty0) (by have := HL9.out; omega)
  rw [HN.out] at RD
  refine wpAnyZ_enter 5 114 26 #[.slice lo n lc, tv t] rfl rfl (by decide) (by kernel_rfl) (by kernel_rfl) (by kernel_rfl) ?_
  refine RD.mono ?_
  rintro e wd ⟨aod, capd, rfl, rld, locd, td⟩
  have tyd : Calm w2 wd := ty0.tr td
  refine ⟨_, rfl, tyd, ?_⟩
  simp only [Act.put, List.setIfInBounds_toArray, List.set_cons_zero, List.set_cons_succ]
  have RS := rset_any aod capd (dropT t L) tu wd rld (HW.out.srt.drop t) (by have := HL9.out; have := dropT_le t L; omega)
  obtain ⟨md, emd⟩ : ∃ md, (dropT t L).length = md := ⟨_, rfl⟩
  have EMD := hide emd
  rw [emd] at RS ⊢
  clear emd
  refine wpAnyZ_enter 8 117 10 #[.slice aod md capd, tv tu] rfl rfl (by decide) (by kernel_rfl) (by kernel_rfl) (by kernel_rfl) ?_
  refine RS.mono ?_
  rintro e w3 ⟨ao3, cap3, rfl, rl3, loc3, t3⟩
  have ty3 : Calm w2 w3 := tyd.tr t3
  refine ⟨_, rfl, ty3, ?_⟩
  simp only [Act.put, List.setIfInBounds_toArray, List.set_cons_zero, List.set_cons_succ]
  refine wpAnyZ_yield 11 120 (.pointer (some ⟨b, 3, none⟩)) [12] rfl rfl (by kernel_rfl) (by kernel_rfl) (by kernel_rfl) (by kernel_rfl) (by kernel_rfl) (fun _ _ _ h => h) (by kernel_rfl) (fun W hW => by go_simp) (by assumption) rfl rfl ?_
  simp only [Act.put, List.setIfInBounds_toArray, List.set_cons_zero, List.set_cons_succ]
  have RES : Hid (StpR w b 1 q F L lo x y u v (.returned (.bool true)) (w3.setCell ⟨b, 3, none⟩ (.slice ao3 (setT tu (dropT t L)).length cap3))) := hide (HW.out.fin (k := 1) (by decide) T1.out TQ1.out (fun g hg => hg.imp id (fun h => by have := HTA.out.size; omega)) (T2.out.tr ty3) ((HW.out.srt.drop t).set tu) (fun z => by rw [M1.out, setT_mem, dropT_mem, HW.out.mem]) rl3 (fun a ha => by
    rcases loc3 a ha with ⟨h1, h2⟩ | h1
    · exact (locd a h1).imp (fun h => ⟨h.1, h2.trans h.2⟩) (fun h => Nat.le_trans (T2.out.tr ty0).size h)
    · exact .inr (Nat.le_trans (T2.out.tr tyd).size h1)) (by have h1 := setT_len tu (dropT t L); have h2 := dropT_le t L; omega))
  obtain ⟨m, em⟩ : ∃ m, (setT tu (dropT t L)).length = m := ⟨_, rfl⟩
  rw [em] at RES ⊢
  clear em RS RD rl3 loc3 t3 rld locd td tyd
  refine wpAnyZ_end rfl (by kernel_rfl) (by kernel_rfl) (by kernel_rfl) ?_
  have OW3 := ty3.at OW2.out
  obtain ⟨e0, e1, e2, e3, e4, e5⟩ := cells6 OW3
  have fz : w3.frozen? ⟨b, 3, none⟩ = false := by simp [World.frozen?, OW3]
  unfold Oper.wp
  go_simp
  rw [onlyN_normal]
  clear OW3 ty0 ty3 e0 e1 e2 e3 e4 e5 fz
  cases c <;>
  · go_wp2_with fail
    go_ret
    exact RES.out

end Go.Proofs.Ytlnblhajcbmmkaa
