/- The document's comparison; what comparisons are like. -/
import Derived.Test.YtakpeopghhblmaaDoorYK
namespace Go.Proofs.YtakpeopghhblmaaDoor
open Go.RowKit Go.Lib

theorem cmpI_val (a b : Int) : cmpI a b = -1 ∨ cmpI a b = 0 ∨ cmpI a b = 1 := by unfold cmpI; split <;> (try split) <;> simp
theorem restC_val (t u : Tl) : ∀ n k, restC t u n k = -1 ∨ restC t u n k = 0 ∨ restC t u n k = 1
  | 0, _ => by simp [restC]
  | n + 1, k => by
    unfold restC thn
    split
    · exact restC_val t u n (k + 1)
    · exact cmpI_val _ _
theorem cmpI_anti (a b : Int) : cmpI b a = -cmpI a b := by unfold cmpI; split <;> split <;> first | omega | (split <;> omega)
theorem restC_anti (t u : Tl) : ∀ n k, restC u t n k = -restC t u n k
  | 0, _ => by simp [restC]
  | n + 1, k => by
    unfold restC thn
    rw [cmpI_anti (fld t k) (fld u k), restC_anti t u n (k + 1)]
    split <;> split <;> omega
theorem cmpI_zero {a b : Int} (h : cmpI a b = 0) : a = b := by unfold cmpI at h; split at h <;> (try split at h) <;> omega
theorem restC_zero (t u : Tl) : ∀ n k, restC t u n k = 0 → ∀ j, k ≤ j → j < k + n → fld t j = fld u j
  | 0, k, _, j, h1, h2 => by omega
  | n + 1, k, h, j, h1, h2 => by
    unfold restC thn at h
    split at h
    · rename_i h0
      rcases Nat.eq_or_lt_of_le h1 with rfl | h3
      · exact cmpI_zero h0
      · exact restC_zero t u n (k + 1) h j h3 (by omega)
    · rename_i h0; exact absurd h h0
theorem restC_trans (a b c : Tl) : ∀ n k, restC a b n k ≤ 0 → restC b c n k ≤ 0 → restC a c n k ≤ 0
  | 0, _, _, _ => by simp [restC]
  | n + 1, k, h1, h2 => by
    unfold restC thn at *
    have ih := restC_trans a b c n (k + 1)
    generalize restC a b n (k + 1) = r1 at *
    generalize restC b c n (k + 1) = r2 at *
    generalize restC a c n (k + 1) = r3 at *
    unfold cmpI at *
    repeat' split at *
    all_goals first | omega | (exact ih (by omega) (by omega))

theorem cmpT_same (t : Tl) : cmpT t t = 0 := restC_same t 4 0
theorem cmpT_anti (t u : Tl) : cmpT u t = -cmpT t u := restC_anti t u 4 0
theorem cmpT_val (t u : Tl) : cmpT t u = -1 ∨ cmpT t u = 0 ∨ cmpT t u = 1 := restC_val t u 4 0
theorem cmpT_zero {t u : Tl} (h : cmpT t u = 0) : t = u := by
  have z := restC_zero t u 4 0 h
  have h0 : t.c = u.c := z 0 (by omega) (by omega)
  have h1 : t.s = u.s := z 1 (by omega) (by omega)
  have h2 : t.m = u.m := z 2 (by omega) (by omega)
  have h3 : t.x = u.x := z 3 (by omega) (by omega)
  obtain ⟨_, _, _, _⟩ := t
  obtain ⟨_, _, _, _⟩ := u
  simp at h0 h1 h2 h3
  rw [h0, h1, h2, h3]
theorem cmpT_trans {a b c : Tl} (h1 : cmpT a b ≤ 0) (h2 : cmpT b c ≤ 0) : cmpT a c ≤ 0 := restC_trans a b c 4 0 h1 h2

set_option maxRecDepth 100000 in
set_option maxHeartbeats 2000000 in
theorem rcompare_any (t u : Tl) (w : World) : Calls Tryd.prog 25 #[tlv t, tlv u] w fun e w' => e = .returned (.int .i64 (cmpT t u)) ∧ Calm w w' := by
  have RS := hide (restC_step t u)
  have H00 : Hid (restC t u (4 - 0) 0 = cmpT t u) := hide rfl
  generalize hcm : cmpT t u = cm at *
  clear hcm
  go_enter Tryd.func25, Tryd.ntmps25
  go_wp2_with fail
  obtain ⟨-, P1, P2⟩ := al3 (w.alloc (.cells (tlc t) 24)) (.cells (tlc u) 24) (.cells (tlc t) 54) (.cells (tlc u) 54)
  rw [al_size] at P1 P2
  have TW : Calm w ((((w.alloc (.cells (tlc t) 24)).alloc (.cells (tlc u) 24)).alloc (.cells (tlc t) 54)).alloc (.cells (tlc u) 54)) := ((((Touch.refl (fun _ => False) w).alloc _).alloc _).alloc _).alloc _
  generalize ((((w.alloc (.cells (tlc t) 24)).alloc (.cells (tlc u) 24)).alloc (.cells (tlc t) 54)).alloc (.cells (tlc u) 54)) = W2 at *
  generalize w.heap.size = B at *
  have HP := hide P1
  have HQ := hide P2
  have HW := hide TW
  clear P1 P2 TW
  go_loopw [7] (fun i wr => ∃ k : Nat, i = .int .i64 k ∧ k ≤ 4 ∧ restC t u (4 - k) k = cm ∧ Calm W2 wr) (fun i _ => 4 - (intOf i).toNat)
  case atStart => exact ⟨0, rfl, Nat.zero_le _, H00.out, Touch.refl _ _⟩
  case round =>
    obtain ⟨k, rfl, hk, hr, T2⟩ := hrel
    by_cases hlt : k < 4
    · have R1 := RS.out k hlt
      rw [hr] at R1
      have K1 : Hid (∀ W', Calm W2 W' → W'.cell? ⟨B + 1 + 1, k, none⟩ = some (.int .i64 (fld t k))) := hide fun W' h => fld_cell (h.at HP.out) k hlt
      have K2 : Hid (∀ W', Calm W2 W' → W'.cell? ⟨B + 1 + 1 + 1, k, none⟩ = some (.int .i64 (fld u k))) := hide fun W' h => fld_cell (h.at HQ.out) k hlt
      generalize fld t k = x at *
      generalize fld u k = y at *
      have hki : (k : Int) < 4 := by omega
      have H2 := hide T2
      clear T2 hr
      have HR1 := hide R1
      clear R1
      rcases (by omega : x < y ∨ (¬ x < y ∧ y < x) ∨ (¬ x < y ∧ ¬ y < x)) with hxy | ⟨h1, h2⟩ | ⟨h1, h2⟩
      · have hd : decide (x < y) = true := decide_eq_true hxy
        have HX := hide hxy
        clear hxy
        go_wp2_with fail
        refine wp_region_held (S := Calm W2) (by kernel_rfl) ?_
        have hT0 : Calm W2 { wr with drawn := wr.drawn + 1 } := H2.out.drew
        refine wpAnyH_yield 0 30 (.int .i64 (k : Int)) rfl rfl (by kernel_rfl) (by kernel_rfl) (by kernel_rfl) (fun _ _ _ h => h) (by kernel_rfl) (fun W hW => by kernel_rfl) (by assumption) rfl rfl ?_
        simp only [Act.put, List.setIfInBounds_toArray, List.set_cons_zero, List.set_cons_succ]
        refine wpAnyH_yield 1 31 (.pointer (some ⟨B + 1 + 1, k, none⟩)) rfl rfl (by kernel_rfl) (by kernel_rfl) (by kernel_rfl) (fun _ _ _ h => h) (by kernel_rfl) (fun W hW => by go_simp) (by assumption) rfl rfl ?_
        simp only [Act.put, List.setIfInBounds_toArray, List.set_cons_zero, List.set_cons_succ]
        refine wpAnyH_yield 2 32 (.int .i64 x) rfl rfl (by kernel_rfl) (by kernel_rfl) (by kernel_rfl) (fun _ _ _ h => h) (by kernel_rfl) (fun W hW => by have c0 := K1.out W hW; go_simp) (by assumption) rfl rfl ?_
        simp only [Act.put, List.setIfInBounds_toArray, List.set_cons_zero, List.set_cons_succ]
        refine wpAnyH_yield 3 33 (.int .i64 (k : Int)) rfl rfl (by kernel_rfl) (by kernel_rfl) (by kernel_rfl) (fun _ _ _ h => h) (by kernel_rfl) (fun W hW => by kernel_rfl) (by assumption) rfl rfl ?_
        simp only [Act.put, List.setIfInBounds_toArray, List.set_cons_zero, List.set_cons_succ]
        refine wpAnyH_yield 4 34 (.pointer (some ⟨B + 1 + 1 + 1, k, none⟩)) rfl rfl (by kernel_rfl) (by kernel_rfl) (by kernel_rfl) (fun _ _ _ h => h) (by kernel_rfl) (fun W hW => by go_simp) (by assumption) rfl rfl ?_
        simp only [Act.put, List.setIfInBounds_toArray, List.set_cons_zero, List.set_cons_succ]
        refine wpAnyH_yield 5 35 (.int .i64 y) rfl rfl (by kernel_rfl) (by kernel_rfl) (by kernel_rfl) (fun _ _ _ h => h) (by kernel_rfl) (fun W hW => by have c0 := K2.out W hW; go_simp) (by assumption) rfl rfl ?_
        simp only [Act.put, List.setIfInBounds_toArray, List.set_cons_zero, List.set_cons_succ]
        refine wpAnyH_yield 6 36 (.bool true) rfl rfl (by kernel_rfl) (by kernel_rfl) (by kernel_rfl) (fun _ _ _ h => h) (by kernel_rfl) (fun W hW => by go_simp) (by assumption) rfl rfl ?_
        simp only [Act.put, List.setIfInBounds_toArray, List.set_cons_zero, List.set_cons_succ]
        refine wpAnyH_done (by kernel_rfl) ?_ _
        have H3 := hide hT0
        clear hT0 H2 K1 K2
        go_wp2_with fail
        go_ret
        refine ⟨?_, HW.out.tr H3.out⟩
        have := HR1.out
        unfold thn cmpI at this
        rw [if_pos HX.out, if_neg (by decide)] at this
        rw [this]
        rfl
      · have hd : decide (x < y) = false := decide_eq_false h1
        have hd2 : decide (y < x) = true := decide_eq_true h2
        have HX := hide (And.intro h1 h2)
        clear h1 h2
        go_wp2_with fail
        refine wp_region_held (S := Calm W2) (by kernel_rfl) ?_
        have hT0 : Calm W2 { wr with drawn := wr.drawn + 1 } := H2.out.drew
        refine wpAnyH_yield 0 30 (.int .i64 (k : Int)) rfl rfl (by kernel_rfl) (by kernel_rfl) (by kernel_rfl) (fun _ _ _ h => h) (by kernel_rfl) (fun W hW => by kernel_rfl) (by assumption) rfl rfl ?_
        simp only [Act.put, List.setIfInBounds_toArray, List.set_cons_zero, List.set_cons_succ]
        refine wpAnyH_yield 1 31 (.pointer (some ⟨B + 1 + 1, k, none⟩)) rfl rfl (by kernel_rfl) (by kernel_rfl) (by kernel_rfl) (fun _ _ _ h => h) (by kernel_rfl) (fun W hW => by go_simp) (by assumption) rfl rfl ?_
        simp only [Act.put, List.setIfInBounds_toArray, List.set_cons_zero, List.set_cons_succ]
        refine wpAnyH_yield 2 32 (.int .i64 x) rfl rfl (by kernel_rfl) (by kernel_rfl) (by kernel_rfl) (fun _ _ _ h => h) (by kernel_rfl) (fun W hW => by have c0 := K1.out W hW; go_simp) (by assumption) rfl rfl ?_
        simp only [Act.put, List.setIfInBounds_toArray, List.set_cons_zero, List.set_cons_succ]
        refine wpAnyH_yield 3 33 (.int .i64 (k : Int)) rfl rfl (by kernel_rfl) (by kernel_rfl) (by kernel_rfl) (fun _ _ _ h => h) (by kernel_rfl) (fun W hW => by kernel_rfl) (by assumption) rfl rfl ?_
        simp only [Act.put, List.setIfInBounds_toArray, List.set_cons_zero, List.set_cons_succ]
        refine wpAnyH_yield 4 34 (.pointer (some ⟨B + 1 + 1 + 1, k, none⟩)) rfl rfl (by kernel_rfl) (by kernel_rfl) (by kernel_rfl) (fun _ _ _ h => h) (by kernel_rfl) (fun W hW => by go_simp) (by assumption) rfl rfl ?_
        simp only [Act.put, List.setIfInBounds_toArray, List.set_cons_zero, List.set_cons_succ]
        refine wpAnyH_yield 5 35 (.int .i64 y) rfl rfl (by kernel_rfl) (by kernel_rfl) (by kernel_rfl) (fun _ _ _ h => h) (by kernel_rfl) (fun W hW => by have c0 := K2.out W hW; go_simp) (by assumption) rfl rfl ?_
        simp only [Act.put, List.setIfInBounds_toArray, List.set_cons_zero, List.set_cons_succ]
        refine wpAnyH_yield 6 36 (.bool false) rfl rfl (by kernel_rfl) (by kernel_rfl) (by kernel_rfl) (fun _ _ _ h => h) (by kernel_rfl) (fun W hW => by go_simp) (by assumption) rfl rfl ?_
        simp only [Act.put, List.setIfInBounds_toArray, List.set_cons_zero, List.set_cons_succ]
        refine wpAnyH_done (by kernel_rfl) ?_ _
        have H3 := hide hT0
        clear hT0 H2
        go_wp2_with fail
        refine wp_region_held (S := Calm W2) (by kernel_rfl) ?_
        have hT0 : Calm W2 _ := H3.out.drew
        refine wpAnyH_yield 0 37 (.int .i64 (k : Int)) rfl rfl (by kernel_rfl) (by kernel_rfl) (by kernel_rfl) (fun _ _ _ h => h) (by kernel_rfl) (fun W hW => by kernel_rfl) (by assumption) rfl rfl ?_
        simp only [Act.put, List.setIfInBounds_toArray, List.set_cons_zero, List.set_cons_succ]
        refine wpAnyH_yield 1 38 (.pointer (some ⟨B + 1 + 1, k, none⟩)) rfl rfl (by kernel_rfl) (by kernel_rfl) (by kernel_rfl) (fun _ _ _ h => h) (by kernel_rfl) (fun W hW => by go_simp) (by assumption) rfl rfl ?_
        simp only [Act.put, List.setIfInBounds_toArray, List.set_cons_zero, List.set_cons_succ]
        refine wpAnyH_yield 2 39 (.int .i64 x) rfl rfl (by kernel_rfl) (by kernel_rfl) (by kernel_rfl) (fun _ _ _ h => h) (by kernel_rfl) (fun W hW => by have c0 := K1.out W hW; go_simp) (by assumption) rfl rfl ?_
        simp only [Act.put, List.setIfInBounds_toArray, List.set_cons_zero, List.set_cons_succ]
        refine wpAnyH_yield 3 40 (.int .i64 (k : Int)) rfl rfl (by kernel_rfl) (by kernel_rfl) (by kernel_rfl) (fun _ _ _ h => h) (by kernel_rfl) (fun W hW => by kernel_rfl) (by assumption) rfl rfl ?_
        simp only [Act.put, List.setIfInBounds_toArray, List.set_cons_zero, List.set_cons_succ]
        refine wpAnyH_yield 4 41 (.pointer (some ⟨B + 1 + 1 + 1, k, none⟩)) rfl rfl (by kernel_rfl) (by kernel_rfl) (by kernel_rfl) (fun _ _ _ h => h) (by kernel_rfl) (fun W hW => by go_simp) (by assumption) rfl rfl ?_
        simp only [Act.put, List.setIfInBounds_toArray, List.set_cons_zero, List.set_cons_succ]
        refine wpAnyH_yield 5 42 (.int .i64 y) rfl rfl (by kernel_rfl) (by kernel_rfl) (by kernel_rfl) (fun _ _ _ h => h) (by kernel_rfl) (fun W hW => by have c0 := K2.out W hW; go_simp) (by assumption) rfl rfl ?_
        simp only [Act.put, List.setIfInBounds_toArray, List.set_cons_zero, List.set_cons_succ]
        refine wpAnyH_yield 6 43 (.bool true) rfl rfl (by kernel_rfl) (by kernel_rfl) (by kernel_rfl) (fun _ _ _ h => h) (by kernel_rfl) (fun W hW => by go_simp) (by assumption) rfl rfl ?_
        simp only [Act.put, List.setIfInBounds_toArray, List.set_cons_zero, List.set_cons_succ]
        refine wpAnyH_done (by kernel_rfl) ?_ _
        have H4 := hide hT0
        clear hT0 H3 K1 K2
        go_wp2_with fail
        go_ret
        refine ⟨?_, HW.out.tr H4.out⟩
        have := HR1.out
        unfold thn cmpI at this
        rw [if_neg (show ¬ x < y by have := HX.out.1; omega), if_pos HX.out.2, if_neg (by decide)] at this
        rw [this]
        rfl
      · have hd : decide (x < y) = false := decide_eq_false h1
        have hd2 : decide (y < x) = false := decide_eq_false h2
        have HX := hide (And.intro h1 h2)
        clear h1 h2
        go_wp2_with fail
        refine wp_region_held (S := Calm W2) (by kernel_rfl) ?_
        have hT0 : Calm W2 { wr with drawn := wr.drawn + 1 } := H2.out.drew
        refine wpAnyH_yield 0 30 (.int .i64 (k : Int)) rfl rfl (by kernel_rfl) (by kernel_rfl) (by kernel_rfl) (fun _ _ _ h => h) (by kernel_rfl) (fun W hW => by kernel_rfl) (by assumption) rfl rfl ?_
        simp only [Act.put, List.setIfInBounds_toArray, List.set_cons_zero, List.set_cons_succ]
        refine wpAnyH_yield 1 31 (.pointer (some ⟨B + 1 + 1, k, none⟩)) rfl rfl (by kernel_rfl) (by kernel_rfl) (by kernel_rfl) (fun _ _ _ h => h) (by kernel_rfl) (fun W hW => by go_simp) (by assumption) rfl rfl ?_
        simp only [Act.put, List.setIfInBounds_toArray, List.set_cons_zero, List.set_cons_succ]
        refine wpAnyH_yield 2 32 (.int .i64 x) rfl rfl (by kernel_rfl) (by kernel_rfl) (by kernel_rfl) (fun _ _ _ h => h) (by kernel_rfl) (fun W hW => by have c0 := K1.out W hW; go_simp) (by assumption) rfl rfl ?_
        simp only [Act.put, List.setIfInBounds_toArray, List.set_cons_zero, List.set_cons_succ]
        refine wpAnyH_yield 3 33 (.int .i64 (k : Int)) rfl rfl (by kernel_rfl) (by kernel_rfl) (by kernel_rfl) (fun _ _ _ h => h) (by kernel_rfl) (fun W hW => by kernel_rfl) (by assumption) rfl rfl ?_
        simp only [Act.put, List.setIfInBounds_toArray, List.set_cons_zero, List.set_cons_succ]
        refine wpAnyH_yield 4 34 (.pointer (some ⟨B + 1 + 1 + 1, k, none⟩)) rfl rfl (by kernel_rfl) (by kernel_rfl) (by kernel_rfl) (fun _ _ _ h => h) (by kernel_rfl) (fun W hW => by go_simp) (by assumption) rfl rfl ?_
        simp only [Act.put, List.setIfInBounds_toArray, List.set_cons_zero, List.set_cons_succ]
        refine wpAnyH_yield 5 35 (.int .i64 y) rfl rfl (by kernel_rfl) (by kernel_rfl) (by kernel_rfl) (fun _ _ _ h => h) (by kernel_rfl) (fun W hW => by have c0 := K2.out W hW; go_simp) (by assumption) rfl rfl ?_
        simp only [Act.put, List.setIfInBounds_toArray, List.set_cons_zero, List.set_cons_succ]
        refine wpAnyH_yield 6 36 (.bool false) rfl rfl (by kernel_rfl) (by kernel_rfl) (by kernel_rfl) (fun _ _ _ h => h) (by kernel_rfl) (fun W hW => by go_simp) (by assumption) rfl rfl ?_
        simp only [Act.put, List.setIfInBounds_toArray, List.set_cons_zero, List.set_cons_succ]
        refine wpAnyH_done (by kernel_rfl) ?_ _
        have H3 := hide hT0
        clear hT0 H2
        go_wp2_with fail
        refine wp_region_held (S := Calm W2) (by kernel_rfl) ?_
        have hT0 : Calm W2 _ := H3.out.drew
        refine wpAnyH_yield 0 37 (.int .i64 (k : Int)) rfl rfl (by kernel_rfl) (by kernel_rfl) (by kernel_rfl) (fun _ _ _ h => h) (by kernel_rfl) (fun W hW => by kernel_rfl) (by assumption) rfl rfl ?_
        simp only [Act.put, List.setIfInBounds_toArray, List.set_cons_zero, List.set_cons_succ]
        refine wpAnyH_yield 1 38 (.pointer (some ⟨B + 1 + 1, k, none⟩)) rfl rfl (by kernel_rfl) (by kernel_rfl) (by kernel_rfl) (fun _ _ _ h => h) (by kernel_rfl) (fun W hW => by go_simp) (by assumption) rfl rfl ?_
        simp only [Act.put, List.setIfInBounds_toArray, List.set_cons_zero, List.set_cons_succ]
        refine wpAnyH_yield 2 39 (.int .i64 x) rfl rfl (by kernel_rfl) (by kernel_rfl) (by kernel_rfl) (fun _ _ _ h => h) (by kernel_rfl) (fun W hW => by have c0 := K1.out W hW; go_simp) (by assumption) rfl rfl ?_
        simp only [Act.put, List.setIfInBounds_toArray, List.set_cons_zero, List.set_cons_succ]
        refine wpAnyH_yield 3 40 (.int .i64 (k : Int)) rfl rfl (by kernel_rfl) (by kernel_rfl) (by kernel_rfl) (fun _ _ _ h => h) (by kernel_rfl) (fun W hW => by kernel_rfl) (by assumption) rfl rfl ?_
        simp only [Act.put, List.setIfInBounds_toArray, List.set_cons_zero, List.set_cons_succ]
        refine wpAnyH_yield 4 41 (.pointer (some ⟨B + 1 + 1 + 1, k, none⟩)) rfl rfl (by kernel_rfl) (by kernel_rfl) (by kernel_rfl) (fun _ _ _ h => h) (by kernel_rfl) (fun W hW => by go_simp) (by assumption) rfl rfl ?_
        simp only [Act.put, List.setIfInBounds_toArray, List.set_cons_zero, List.set_cons_succ]
        refine wpAnyH_yield 5 42 (.int .i64 y) rfl rfl (by kernel_rfl) (by kernel_rfl) (by kernel_rfl) (fun _ _ _ h => h) (by kernel_rfl) (fun W hW => by have c0 := K2.out W hW; go_simp) (by assumption) rfl rfl ?_
        simp only [Act.put, List.setIfInBounds_toArray, List.set_cons_zero, List.set_cons_succ]
        refine wpAnyH_yield 6 43 (.bool false) rfl rfl (by kernel_rfl) (by kernel_rfl) (by kernel_rfl) (fun _ _ _ h => h) (by kernel_rfl) (fun W hW => by go_simp) (by assumption) rfl rfl ?_
        simp only [Act.put, List.setIfInBounds_toArray, List.set_cons_zero, List.set_cons_succ]
        refine wpAnyH_done (by kernel_rfl) ?_ _
        have H4 := hide hT0
        clear hT0 H3 K1 K2
        go_wp2_with fail
        go_roundw
        case rel =>
          refine ⟨k + 1, by go_num, by omega, ?_, H4.out⟩
          have := HR1.out
          unfold thn cmpI at this
          rw [if_neg (show ¬ x < y by have := HX.out.1; omega), if_neg (show ¬ y < x by have := HX.out.2; omega), if_pos rfl] at this
          exact this.symm
        case measure => simp [intOf]; omega
    · have e : k = 4 := by omega
      subst e
      have H2 := hide T2
      have HR1 := hide hr
      clear T2 hr
      go_wp2_with fail
      go_ret
      exact ⟨by have := HR1.out; rw [← this]; rfl, HW.out.tr H2.out⟩

end Go.Proofs.YtakpeopghhblmaaDoor
