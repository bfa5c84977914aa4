/- The document's More, Add, Behind, OnTime, Over. -/
import Derived.Test.YtfmlbcddomggaaaVA
namespace Go.Proofs.Ytfmlbcddomggaaa
open Go.RowKit

set_option maxRecDepth 100000 in
theorem rmore_any (n : Int) (hn : I64 n) (w : World) : Calls Try.prog 27 #[.int .i64 n] w fun e w' => e = .returned (.int .i64 (moreN n)) ∧ w' = w := by
  unfold moreN
  by_cases h : 9007199254740992 ≤ n
  · rw [if_pos h]
    go_enter Try.func27, Try.ntmps27
    go_wp2_with fail
    go_ret
    exact ⟨rfl, rfl⟩
  · rw [if_neg h]
    have hw : wrap64 (n + 1) = n + 1 := by unfold I64 at hn; unfold wrap64; omega
    clear hn
    go_enter Try.func27, Try.ntmps27
    go_wp2_with fail
    go_ret
    exact ⟨rfl, rfl⟩

set_option maxRecDepth 100000 in
set_option maxHeartbeats 1000000 in
theorem rbehind_any (c : Cf) (x : Wn) (m : Int) (w : World) : Calls Try.prog 9 #[cfv c, wnv x, .int .i64 m] w fun e w' => e = .returned (.tuple #[.int .i64 (behK c.ea m x), .bool (behB c.ea m x)]) ∧ Calm w w' := by
  have T0 : Calm w ((w.alloc (.cells (cfc c) 24)).alloc (.cells (wnc x) 30)) := ((Touch.refl _ _).alloc _).alloc _
  have HT := hide T0
  clear T0
  unfold behK behB
  by_cases h1 : x.b ≤ m
  · rw [if_pos h1, decide_eq_true h1]
    go_enter Try.func9, Try.ntmps9
    go_wp2_with fail
    go_ret2
    exact ⟨rfl, HT.out⟩
  · rw [if_neg h1, decide_eq_false h1, Bool.false_or]
    have hd1 : decide (x.b ≤ m) = false := decide_eq_false h1
    by_cases h2 : c.ea = 0
    · rw [if_neg (fun h => h.1 h2), decide_eq_false (fun h => h h2)]
      go_enter Try.func9, Try.ntmps9
      go_wp2_with fail
      go_ret2
      exact ⟨rfl, HT.out⟩
    · have hb2 : (c.ea != 0) = true := by simpa using h2
      rw [decide_eq_true h2]
      by_cases h3 : c.ea ≤ x.n
      · rw [if_pos ⟨h2, h3⟩, decide_eq_true h3]
        go_enter Try.func9, Try.ntmps9
        go_wp2_with fail
        go_ret2
        exact ⟨rfl, HT.out⟩
      · rw [if_neg (fun h => h3 h.2), decide_eq_false h3]
        have hd3 : decide (c.ea ≤ x.n) = false := decide_eq_false h3
        go_enter Try.func9, Try.ntmps9
        go_wp2_with fail
        go_ret2
        exact ⟨rfl, HT.out⟩

set_option maxRecDepth 100000 in
set_option maxHeartbeats 1000000 in
theorem rontime_any (x : Wn) (f t : Int) (w : World) : Calls Try.prog 11 #[wnv x, .int .i64 f, .int .i64 t] w fun e w' => e = .returned (.bool (onT x f t)) ∧ Calm w w' := by
  unfold onT
  generalize h1 : decide (f < x.b) = b1
  generalize h2 : decide (x.b ≤ t) = b2
  cases b1 <;> cases b2
  all_goals
    go_enter Try.func11, Try.ntmps11
    go_wp2_with fail
    go_ret
    exact ⟨by first | rfl | simp, (Touch.refl (fun _ => False) w).alloc _⟩

set_option maxRecDepth 100000 in
set_option maxHeartbeats 1000000 in
theorem rover_any (s : Sp) (late m : Int) (hb : I64 s.b) (hl : I64 late) (hm : I64 m) (w : World) : Calls Try.prog 23 #[spv s, .int .i64 late, .int .i64 m] w fun e w' => e = .returned (.bool (overB s.b late m)) ∧ Calm w w' := by
  have HT := hide ((Touch.refl (fun _ => False) w).alloc (.cells (spc s) 26))
  unfold overB
  by_cases h0 : 0 ≤ late
  · have e1 : wrap64 (-9223372036854775808 + late) = -9223372036854775808 + late := by unfold I64 at hl; unfold wrap64; omega
    by_cases h1 : -9223372036854775808 + late ≤ m
    · have e2 : wrap64 (m - late) = m - late := by unfold I64 at hm; unfold wrap64; omega
      have hd : decide (s.b + late ≤ m) = decide (s.b ≤ m - late) := by
        by_cases h : s.b + late ≤ m
        · rw [decide_eq_true h, decide_eq_true (by omega)]
        · rw [decide_eq_false h, decide_eq_false (by omega)]
      rw [hd]
      clear hd hb hl hm
      go_enter Try.func23, Try.ntmps23
      go_wp2_with fail
      go_ret
      exact ⟨rfl, HT.out⟩
    · have hd : decide (s.b + late ≤ m) = false := decide_eq_false (by unfold I64 at hb; omega)
      have hd1 : decide (-9223372036854775808 + late ≤ m) = false := decide_eq_false h1
      rw [hd]
      clear hd hb hl hm
      go_enter Try.func23, Try.ntmps23
      go_wp2_with fail
      go_ret
      exact ⟨rfl, HT.out⟩
  · have hd0 : decide (0 ≤ late) = false := decide_eq_false h0
    have e1 : wrap64 (9223372036854775807 + late) = 9223372036854775807 + late := by unfold I64 at hl; unfold wrap64; omega
    by_cases h1 : 9223372036854775807 + late < m
    · have hd : decide (s.b + late ≤ m) = true := decide_eq_true (by unfold I64 at hb; omega)
      rw [hd]
      clear hd hb hl hm
      go_enter Try.func23, Try.ntmps23
      go_wp2_with fail
      go_ret
      exact ⟨rfl, HT.out⟩
    · have e2 : wrap64 (m - late) = m - late := by unfold I64 at hm; unfold wrap64; omega
      have hd : decide (s.b + late ≤ m) = decide (s.b ≤ m - late) := by
        by_cases h : s.b + late ≤ m
        · rw [decide_eq_true h, decide_eq_true (by omega)]
        · rw [decide_eq_false h, decide_eq_false (by omega)]
      have hd1 : decide (9223372036854775807 + late < m) = false := decide_eq_false h1
      rw [hd]
      clear hd hb hl hm
      go_enter Try.func23, Try.ntmps23
      go_wp2_with fail
      go_ret
      exact ⟨rfl, HT.out⟩

set_option maxRecDepth 100000 in
set_option maxHeartbeats 1000000 in
theorem radd_any (t : Tl) (v : Int) (ht : I64 t.c) (hv : I64 v) (w : World) : Calls Try.prog 29 #[tlv t, .int .i64 v] w fun e w' => e = .returned (tlv (addT t v)) ∧ Calm w w' := by
  rw [addT_eq hv]
  have A := al1 w (.cells (tlc t) 28) (.cells (tlc tl0) 28)
  have T0 : Calm w ((w.alloc (.cells (tlc t) 28)).alloc (.cells (tlc tl0) 28)) := ((Touch.refl _ _).alloc _).alloc _
  obtain ⟨A0, A1⟩ := A
  by_cases h : t.c < 1
  · rw [if_pos h]
    clear A0 A1 T0 ht hv
    go_enter Try.func29, Try.ntmps29
    go_wp2_with fail
    have A := al_new (w.alloc (.cells (tlc t) 28)) (.cells (tlc ⟨1, v, v, v⟩) 28)
    rw [al_size] at A
    refine bodyPost_ret (results_cell_row rfl _ _ _ _ _ _ _ rfl A Try.underlying28 rfl (by kernel_rfl)) rfl ?_
    exact ⟨rfl, (((Touch.refl (fun _ => False) w).alloc _).alloc _)⟩
  · rw [if_neg h]
    have em : moreN t.c = if t.c < 9007199254740992 then t.c + 1 else 9007199254740992 := by unfold moreN; split <;> split <;> omega
    rw [← em]
    have CM := fun w => hide (rmore_any t.c ht w)
    generalize hr : (⟨moreN t.c, wrap64 (t.s + v), min t.m v, max t.x v⟩ : Tl) = r
    have HR := hide hr
    have HA0 := hide A0
    have HA1 := hide A1
    have HT0 := hide T0
    have hd : decide (t.c < 1) = false := decide_eq_false h
    clear hr A0 A1 T0 ht hv em h
    go_enter Try.func29, Try.ntmps29
    go_wp2_with fail
    generalize hw : (w.alloc (.cells (tlc t) 28)).alloc (.cells (tlc tl0) 28) = w1 at *
    clear hw
    generalize hB : w.heap.size = B at *
    have HB := hide hB
    clear hB
    refine wp_region_z 16 (Calm w1) (by kernel_rfl) ?_
    have hT0 : Calm w1 { w1 with drawn := w1.drawn + 1 } := (Touch.refl (fun _ => False) w1).drew
    refine wpAnyZ_yield 0 12 (.pointer (some ⟨B, 0, none⟩)) [16] rfl rfl (by kernel_rfl) (by kernel_rfl) (by kernel_rfl) (by kernel_rfl) (by kernel_rfl) (fun _ _ _ h => h) (by kernel_rfl) (fun W hW => by go_simp) (by assumption) rfl rfl ?_
    simp only [Act.put, List.setIfInBounds_toArray, List.set_cons_zero, List.set_cons_succ]
    refine wpAnyZ_yield 1 13 (.int .i64 t.c) [16] rfl rfl (by kernel_rfl) (by kernel_rfl) (by kernel_rfl) (by kernel_rfl) (by kernel_rfl) (fun _ _ _ h => h) (by kernel_rfl) (fun W hW => by obtain ⟨c0, c1, c2, c3⟩ := tl_cells (hW.at HA0.out); go_simp) (by assumption) rfl rfl ?_
    simp only [Act.put, List.setIfInBounds_toArray, List.set_cons_zero, List.set_cons_succ]
    refine wpAnyZ_yield 3 15 (.pointer (some ⟨B, 1, none⟩)) [16] rfl rfl (by kernel_rfl) (by kernel_rfl) (by kernel_rfl) (by kernel_rfl) (by kernel_rfl) (fun _ _ _ h => h) (by kernel_rfl) (fun W hW => by go_simp) (by assumption) rfl rfl ?_
    simp only [Act.put, List.setIfInBounds_toArray, List.set_cons_zero, List.set_cons_succ]
    refine wpAnyZ_yield 4 16 (.int .i64 t.s) [16] rfl rfl (by kernel_rfl) (by kernel_rfl) (by kernel_rfl) (by kernel_rfl) (by kernel_rfl) (fun _ _ _ h => h) (by kernel_rfl) (fun W hW => by obtain ⟨c0, c1, c2, c3⟩ := tl_cells (hW.at HA0.out); go_simp) (by assumption) rfl rfl ?_
    simp only [Act.put, List.setIfInBounds_toArray, List.set_cons_zero, List.set_cons_succ]
    refine wpAnyZ_yield 5 17 (.int .i64 v) [16] rfl rfl (by kernel_rfl) (by kernel_rfl) (by kernel_rfl) (by kernel_rfl) (by kernel_rfl) (fun _ _ _ h => h) (by kernel_rfl) (fun W hW => by kernel_rfl) (by assumption) rfl rfl ?_
    simp only [Act.put, List.setIfInBounds_toArray, List.set_cons_zero, List.set_cons_succ]
    refine wpAnyZ_yield 6 18 (.int .i64 (wrap64 (t.s + v))) [16] rfl rfl (by kernel_rfl) (by kernel_rfl) (by kernel_rfl) (by kernel_rfl) (by kernel_rfl) (fun _ _ _ h => h) (by kernel_rfl) (fun W hW => by go_simp; exact wrapEq _) (by assumption) rfl rfl ?_
    simp only [Act.put, List.setIfInBounds_toArray, List.set_cons_zero, List.set_cons_succ]
    refine wpAnyZ_yield 7 19 (.pointer (some ⟨B, 2, none⟩)) [16] rfl rfl (by kernel_rfl) (by kernel_rfl) (by kernel_rfl) (by kernel_rfl) (by kernel_rfl) (fun _ _ _ h => h) (by kernel_rfl) (fun W hW => by go_simp) (by assumption) rfl rfl ?_
    simp only [Act.put, List.setIfInBounds_toArray, List.set_cons_zero, List.set_cons_succ]
    refine wpAnyZ_yield 8 20 (.int .i64 t.m) [16] rfl rfl (by kernel_rfl) (by kernel_rfl) (by kernel_rfl) (by kernel_rfl) (by kernel_rfl) (fun _ _ _ h => h) (by kernel_rfl) (fun W hW => by obtain ⟨c0, c1, c2, c3⟩ := tl_cells (hW.at HA0.out); go_simp) (by assumption) rfl rfl ?_
    simp only [Act.put, List.setIfInBounds_toArray, List.set_cons_zero, List.set_cons_succ]
    refine wpAnyZ_yield 9 21 (.int .i64 v) [16] rfl rfl (by kernel_rfl) (by kernel_rfl) (by kernel_rfl) (by kernel_rfl) (by kernel_rfl) (fun _ _ _ h => h) (by kernel_rfl) (fun W hW => by kernel_rfl) (by assumption) rfl rfl ?_
    simp only [Act.put, List.setIfInBounds_toArray, List.set_cons_zero, List.set_cons_succ]
    refine wpAnyZ_yield 10 22 (.int .i64 (min t.m v)) [16] rfl rfl (by kernel_rfl) (by kernel_rfl) (by kernel_rfl) (by kernel_rfl) (by kernel_rfl) (fun _ _ _ h => h) (by kernel_rfl) (fun W hW => by go_simp) (by assumption) rfl rfl ?_
    simp only [Act.put, List.setIfInBounds_toArray, List.set_cons_zero, List.set_cons_succ]
    refine wpAnyZ_yield 11 23 (.pointer (some ⟨B, 3, none⟩)) [16] rfl rfl (by kernel_rfl) (by kernel_rfl) (by kernel_rfl) (by kernel_rfl) (by kernel_rfl) (fun _ _ _ h => h) (by kernel_rfl) (fun W hW => by go_simp) (by assumption) rfl rfl ?_
    simp only [Act.put, List.setIfInBounds_toArray, List.set_cons_zero, List.set_cons_succ]
    refine wpAnyZ_yield 12 24 (.int .i64 t.x) [16] rfl rfl (by kernel_rfl) (by kernel_rfl) (by kernel_rfl) (by kernel_rfl) (by kernel_rfl) (fun _ _ _ h => h) (by kernel_rfl) (fun W hW => by obtain ⟨c0, c1, c2, c3⟩ := tl_cells (hW.at HA0.out); go_simp) (by assumption) rfl rfl ?_
    simp only [Act.put, List.setIfInBounds_toArray, List.set_cons_zero, List.set_cons_succ]
    refine wpAnyZ_yield 13 25 (.int .i64 v) [16] rfl rfl (by kernel_rfl) (by kernel_rfl) (by kernel_rfl) (by kernel_rfl) (by kernel_rfl) (fun _ _ _ h => h) (by kernel_rfl) (fun W hW => by kernel_rfl) (by assumption) rfl rfl ?_
    simp only [Act.put, List.setIfInBounds_toArray, List.set_cons_zero, List.set_cons_succ]
    refine wpAnyZ_yield 14 26 (.int .i64 (max t.x v)) [16] rfl rfl (by kernel_rfl) (by kernel_rfl) (by kernel_rfl) (by kernel_rfl) (by kernel_rfl) (fun _ _ _ h => h) (by kernel_rfl) (fun W hW => by go_simp) (by assumption) rfl rfl ?_
    simp only [Act.put, List.setIfInBounds_toArray, List.set_cons_zero, List.set_cons_succ]
    refine wpAnyZ_enter 2 14 27 #[.int .i64 t.c] rfl rfl (by decide) (by kernel_rfl) (by kernel_rfl) (by kernel_rfl) ?_
    refine ((CM _).out).mono ?_
    rintro q w2 ⟨rfl, hq⟩
    subst hq
    refine ⟨_, rfl, hT0, ?_⟩
    simp only [Act.put, List.setIfInBounds_toArray, List.set_cons_zero, List.set_cons_succ]
    refine wpAnyZ_yield 15 27 (tlv r) [16] rfl rfl (by kernel_rfl) (by kernel_rfl) (by kernel_rfl) (by kernel_rfl) (by kernel_rfl) (fun _ _ _ h => h) (by kernel_rfl) (fun W hW => by go_simp; rw [← HR.out]; exact ⟨rfl, rfl, rfl, rfl⟩) (by assumption) rfl rfl ?_
    simp only [Act.put, List.setIfInBounds_toArray, List.set_cons_zero, List.set_cons_succ]
    refine wpAnyZ_end rfl (by kernel_rfl) (by kernel_rfl) (by kernel_rfl) ?_
    generalize ({ w1 with drawn := w1.drawn + 1 } : World) = w2 at *
    have A2' := hT0.at HA1.out
    obtain ⟨c0, c1, c2, c3⟩ := tl_cells A2'
    obtain ⟨z0, z1, z2, z3⟩ := tl_frozen A2'
    clear HA0 HA1
    unfold Oper.wp
    go_simp
    obtain ⟨A3, T3⟩ := tl_set r A2'
    have T4 := hide (Touch.trans (HT0.out.tr hT0) T3 (fun k hk e => by have := HB.out; omega))
    have A4 := hide A3
    clear T3 A3 hT0 A2'
    go_wp2_with fail
    refine bodyPost_ret (results_cell_row rfl _ _ _ _ _ _ _ rfl A4.out Try.underlying28 rfl (by kernel_rfl)) rfl ?_
    exact ⟨rfl, T4.out⟩

end Go.Proofs.Ytfmlbcddomggaaa
