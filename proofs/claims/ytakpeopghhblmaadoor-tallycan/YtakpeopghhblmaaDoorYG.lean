/- Whether a tally can be: the document's answer. -/
import Derived.Test.YtakpeopghhblmaaDoorYF
namespace Go.Proofs.YtakpeopghhblmaaDoor
open Go.RowKit Go.Lib

theorem wid_pos {t : Tl} (hm : I64 t.m) (hx : I64 t.x) (h : ¬ t.x < t.m) : 0 < wid t ↔ t.m < t.x := by
  unfold wid U I64 at *
  rw [IntKind.wrap_u64, IntKind.wrap_u64, IntKind.wrap_u64]
  omega

set_option maxRecDepth 100000 in
set_option maxHeartbeats 1000000 in
theorem rcan_any (t : Tl) (hok : t.Ok) (w : World) : Calls Tryd.prog 19 #[tlv t] w fun e w' => e = .returned (.bool (canT t)) ∧ Calm w w' := by
  unfold canT
  by_cases h0 : t.c = 0
  · rw [if_pos h0]
    clear hok
    go_enter Tryd.func19, Tryd.ntmps19
    go_wp2_with fail
    all_goals go_ret
    all_goals refine ⟨?_, (Touch.refl _ _).alloc _⟩
    all_goals simp [*]
  · rw [if_neg h0]
    by_cases h1 : t.c < 0
    · rw [if_pos h1]
      clear hok
      go_enter Tryd.func19, Tryd.ntmps19
      go_wp2_with fail
      go_ret
      exact ⟨rfl, (Touch.refl _ _).alloc _⟩
    · rw [if_neg h1]
      by_cases h2 : 9007199254740992 < t.c
      · rw [if_pos h2]
        clear hok
        go_enter Tryd.func19, Tryd.ntmps19
        go_wp2_with fail
        go_ret
        exact ⟨rfl, (Touch.refl _ _).alloc _⟩
      · rw [if_neg h2]
        by_cases h3 : t.x < t.m
        · rw [if_pos h3]
          clear hok
          go_enter Tryd.func19, Tryd.ntmps19
          go_wp2_with fail
          go_ret
          exact ⟨rfl, (Touch.refl _ _).alloc _⟩
        · rw [if_neg h3]
          by_cases h4 : t.c = 1
          · rw [if_pos h4]
            clear hok
            go_enter Tryd.func19, Tryd.ntmps19
            go_wp2_with fail
            all_goals go_ret
            all_goals refine ⟨?_, (Touch.refl _ _).alloc _⟩
            all_goals first | (simp [*]; done) | (simp [*]; rfl)
          · rw [if_neg h4]
            have hb := U_in (U t.x - U t.m)
            have hwp := wid_pos hok.m hok.x h3
            by_cases h5 : t.c < 9007199254740992
            · rw [if_pos h5]
              have MU := fun w => hide (times_any (t.c - 2) (wid t) (by omega) (by omega) hb.1 hb.2 w)
              have e1 : wrap64 (t.c - 2) = t.c - 2 := by unfold wrap64; omega
              have e2 : IntKind.u64.wrap (t.c - 2) = t.c - 2 := by rw [IntKind.wrap_u64]; omega
              have e1' : IntKind.i64.wrap (t.c - 2) = t.c - 2 := by rw [wrapEq, e1]
              have hn : ¬ t.c = 9007199254740992 := by omega
              have ew : IntKind.u64.wrap (IntKind.u64.wrap t.x - IntKind.u64.wrap t.m) = wid t := rfl
              unfold reach rais low64
              generalize wid t = wd at *
              clear hok hb hwp
              go_enter Tryd.func19, Tryd.ntmps19
              go_wp2_with fail
              refine (MU _).out.mono ?_
              rintro e w2 ⟨rfl, hq⟩
              subst hq
              clear ew
              cases hd : decide (0 < (t.c - 2) * wd / 18446744073709551616) with
              | true =>
                have hd' := of_decide_eq_true hd
                go_wp2_with fail
                go_ret
                exact ⟨by simp [hd'], ((Touch.refl (fun _ => False) w).alloc _)⟩
              | false =>
                have hd' := of_decide_eq_false hd
                go_wp2_with fail
                go_ret
                refine ⟨?_, ((Touch.refl (fun _ => False) w).alloc _)⟩
                simp
                exact fun h => absurd h (Int.not_lt.2 hd')
            · rw [if_neg h5]
              have e9 : t.c = 9007199254740992 := by omega
              have ew : IntKind.u64.wrap (IntKind.u64.wrap t.x - IntKind.u64.wrap t.m) = wid t := rfl
              have c1 := fun w => hide (twos_any (U t.s) (U_in _).1 (U_in _).2 w)
              have c2 := fun w => hide (twos_any (U t.m) (U_in _).1 (U_in _).2 w)
              unfold multi
              by_cases h6 : t.m < t.x
              · rw [if_pos h6]
                have hp := hwp.2 h6
                generalize wid t = wd at *
                clear hok hb hwp c1 c2
                go_enter Tryd.func19, Tryd.ntmps19
                go_wp2_with fail
                refine wp_region_held (S := fun _ => True) (by kernel_rfl) ?_
                have ht : True := trivial
                refine wpAnyH_yield 0 51 (.int .u64 wd) rfl rfl (by kernel_rfl) (by kernel_rfl) (by kernel_rfl) (fun _ _ _ h => h) (by kernel_rfl) (fun W hW => by kernel_rfl) (by assumption) rfl rfl ?_
                simp only [Act.put, List.setIfInBounds_toArray, List.set_cons_zero, List.set_cons_succ]
                refine wpAnyH_yield 1 52 (.bool true) rfl rfl (by kernel_rfl) (by kernel_rfl) (by kernel_rfl) (fun _ _ _ h => h) (by kernel_rfl) (fun W hW => by go_simp) (by assumption) rfl rfl ?_
                simp only [Act.put, List.setIfInBounds_toArray, List.set_cons_zero, List.set_cons_succ]
                refine wpAnyH_yield 2 53 (.bool true) rfl rfl (by kernel_rfl) (by kernel_rfl) (by kernel_rfl) (fun _ _ _ h => h) (by kernel_rfl) (fun W hW => by kernel_rfl) (by assumption) rfl rfl ?_
                simp only [Act.put, List.setIfInBounds_toArray, List.set_cons_zero, List.set_cons_succ]
                refine wpAnyH_skip 3 54 rfl rfl (by kernel_rfl) (by kernel_rfl) (by kernel_rfl) (fun _ _ _ h => h) (by kernel_rfl) (by assumption) rfl rfl ?_
                simp only [Act.put, List.setIfInBounds_toArray, List.set_cons_zero, List.set_cons_succ]
                refine wpAnyH_skip 4 55 rfl rfl (by kernel_rfl) (by kernel_rfl) (by kernel_rfl) (fun _ _ _ h => h) (by kernel_rfl) (by assumption) rfl rfl ?_
                simp only [Act.put, List.setIfInBounds_toArray, List.set_cons_zero, List.set_cons_succ]
                refine wpAnyH_skip 5 56 rfl rfl (by kernel_rfl) (by kernel_rfl) (by kernel_rfl) (fun _ _ _ h => h) (by kernel_rfl) (by assumption) rfl rfl ?_
                simp only [Act.put, List.setIfInBounds_toArray, List.set_cons_zero, List.set_cons_succ]
                refine wpAnyH_skip 6 57 rfl rfl (by kernel_rfl) (by kernel_rfl) (by kernel_rfl) (fun _ _ _ h => h) (by kernel_rfl) (by assumption) rfl rfl ?_
                simp only [Act.put, List.setIfInBounds_toArray, List.set_cons_zero, List.set_cons_succ]
                refine wpAnyH_skip 7 58 rfl rfl (by kernel_rfl) (by kernel_rfl) (by kernel_rfl) (fun _ _ _ h => h) (by kernel_rfl) (by assumption) rfl rfl ?_
                simp only [Act.put, List.setIfInBounds_toArray, List.set_cons_zero, List.set_cons_succ]
                refine wpAnyH_skip 8 59 rfl rfl (by kernel_rfl) (by kernel_rfl) (by kernel_rfl) (fun _ _ _ h => h) (by kernel_rfl) (by assumption) rfl rfl ?_
                simp only [Act.put, List.setIfInBounds_toArray, List.set_cons_zero, List.set_cons_succ]
                refine wpAnyH_skip 9 60 rfl rfl (by kernel_rfl) (by kernel_rfl) (by kernel_rfl) (fun _ _ _ h => h) (by kernel_rfl) (by assumption) rfl rfl ?_
                simp only [Act.put, List.setIfInBounds_toArray, List.set_cons_zero, List.set_cons_succ]
                refine wpAnyH_skip 10 61 rfl rfl (by kernel_rfl) (by kernel_rfl) (by kernel_rfl) (fun _ _ _ h => h) (by kernel_rfl) (by assumption) rfl rfl ?_
                simp only [Act.put, List.setIfInBounds_toArray, List.set_cons_zero, List.set_cons_succ]
                refine wpAnyH_skip 11 62 rfl rfl (by kernel_rfl) (by kernel_rfl) (by kernel_rfl) (fun _ _ _ h => h) (by kernel_rfl) (by assumption) rfl rfl ?_
                simp only [Act.put, List.setIfInBounds_toArray, List.set_cons_zero, List.set_cons_succ]
                refine wpAnyH_yield 12 63 (.bool true) rfl rfl (by kernel_rfl) (by kernel_rfl) (by kernel_rfl) (fun _ _ _ h => h) (by kernel_rfl) (fun W hW => by kernel_rfl) (by assumption) rfl rfl ?_
                simp only [Act.put, List.setIfInBounds_toArray, List.set_cons_zero, List.set_cons_succ]
                refine wpAnyH_yield 13 2 (.bool true) rfl rfl (by kernel_rfl) (by kernel_rfl) (by kernel_rfl) (fun _ _ _ h => h) (by kernel_rfl) (fun W hW => by kernel_rfl) (by assumption) rfl rfl ?_
                simp only [Act.put, List.setIfInBounds_toArray, List.set_cons_zero, List.set_cons_succ]
                refine wpAnyH_done (by kernel_rfl) ?_ _
                go_wp2_with fail
                go_ret
                exact ⟨rfl, ((Touch.refl (fun _ => False) w).alloc _).drew⟩
              · rw [if_neg h6]
                have hp : wid t = 0 := by have : ¬ 0 < wid t := fun h => h6 (hwp.1 h); have : 0 ≤ wid t := hb.1; omega
                rw [hp] at ew
                clear hok hb hwp hp
                generalize tzI (U t.s) = a at *
                generalize tzI (U t.m) = b at *
                go_enter Tryd.func19, Tryd.ntmps19
                go_wp2_with fail
                have A0 := al_new w (.cells (tlc t) 24)
                have T0 : Calm w (w.alloc (.cells (tlc t) 24)) := (Touch.refl _ _).alloc _
                generalize (w.alloc (.cells (tlc t) 24)) = w1 at *
                refine wp_region_held (S := Calm w1) (by kernel_rfl) ?_
                have hT0 : Calm w1 { w1 with drawn := w1.drawn + 1 } := (Touch.refl (fun _ => False) w1).drew
                refine wpAnyH_yield 0 51 (.int .u64 0) rfl rfl (by kernel_rfl) (by kernel_rfl) (by kernel_rfl) (fun _ _ _ h => h) (by kernel_rfl) (fun W hW => by kernel_rfl) (by assumption) rfl rfl ?_
                simp only [Act.put, List.setIfInBounds_toArray, List.set_cons_zero, List.set_cons_succ]
                refine wpAnyH_yield 1 52 (.bool false) rfl rfl (by kernel_rfl) (by kernel_rfl) (by kernel_rfl) (fun _ _ _ h => h) (by kernel_rfl) (fun W hW => by go_simp) (by assumption) rfl rfl ?_
                simp only [Act.put, List.setIfInBounds_toArray, List.set_cons_zero, List.set_cons_succ]
                refine wpAnyH_yield 2 53 (.bool false) rfl rfl (by kernel_rfl) (by kernel_rfl) (by kernel_rfl) (fun _ _ _ h => h) (by kernel_rfl) (fun W hW => by kernel_rfl) (by assumption) rfl rfl ?_
                simp only [Act.put, List.setIfInBounds_toArray, List.set_cons_zero, List.set_cons_succ]
                refine wpAnyH_yield 3 54 (.pointer (some ⟨w.heap.size, 1, none⟩)) rfl rfl (by kernel_rfl) (by kernel_rfl) (by kernel_rfl) (fun _ _ _ h => h) (by kernel_rfl) (fun W hW => by go_simp) (by assumption) rfl rfl ?_
                simp only [Act.put, List.setIfInBounds_toArray, List.set_cons_zero, List.set_cons_succ]
                refine wpAnyH_yield 4 55 (.int .i64 t.s) rfl rfl (by kernel_rfl) (by kernel_rfl) (by kernel_rfl) (fun _ _ _ h => h) (by kernel_rfl) (fun W hW => by obtain ⟨c0, c1, c2, c3⟩ := tl_cells (hW.at A0); go_simp) (by assumption) rfl rfl ?_
                simp only [Act.put, List.setIfInBounds_toArray, List.set_cons_zero, List.set_cons_succ]
                refine wpAnyH_yield 5 56 (.int .u64 (U t.s)) rfl rfl (by kernel_rfl) (by kernel_rfl) (by kernel_rfl) (fun _ _ _ h => h) (by kernel_rfl) (fun W hW => by go_simp) (by assumption) rfl rfl ?_
                simp only [Act.put, List.setIfInBounds_toArray, List.set_cons_zero, List.set_cons_succ]
                refine wpAnyH_yield 7 58 (.pointer (some ⟨w.heap.size, 2, none⟩)) rfl rfl (by kernel_rfl) (by kernel_rfl) (by kernel_rfl) (fun _ _ _ h => h) (by kernel_rfl) (fun W hW => by go_simp) (by assumption) rfl rfl ?_
                simp only [Act.put, List.setIfInBounds_toArray, List.set_cons_zero, List.set_cons_succ]
                refine wpAnyH_yield 8 59 (.int .i64 t.m) rfl rfl (by kernel_rfl) (by kernel_rfl) (by kernel_rfl) (fun _ _ _ h => h) (by kernel_rfl) (fun W hW => by obtain ⟨c0, c1, c2, c3⟩ := tl_cells (hW.at A0); go_simp) (by assumption) rfl rfl ?_
                simp only [Act.put, List.setIfInBounds_toArray, List.set_cons_zero, List.set_cons_succ]
                refine wpAnyH_yield 9 60 (.int .u64 (U t.m)) rfl rfl (by kernel_rfl) (by kernel_rfl) (by kernel_rfl) (fun _ _ _ h => h) (by kernel_rfl) (fun W hW => by go_simp) (by assumption) rfl rfl ?_
                simp only [Act.put, List.setIfInBounds_toArray, List.set_cons_zero, List.set_cons_succ]
                refine wpAnyH_enter 6 57 31 #[.int .u64 (U t.s)] rfl rfl (by kernel_rfl) (by kernel_rfl) (by kernel_rfl) ?_
                refine ((c1 _).out).mono ?_
                rintro r w2 ⟨rfl, hq⟩
                subst hq
                refine ⟨_, rfl, hT0, ?_⟩
                simp only [Act.put, List.setIfInBounds_toArray, List.set_cons_zero, List.set_cons_succ]
                refine wpAnyH_enter 10 61 31 #[.int .u64 (U t.m)] rfl rfl (by kernel_rfl) (by kernel_rfl) (by kernel_rfl) ?_
                refine ((c2 _).out).mono ?_
                rintro r w2 ⟨rfl, hq⟩
                subst hq
                refine ⟨_, rfl, hT0, ?_⟩
                simp only [Act.put, List.setIfInBounds_toArray, List.set_cons_zero, List.set_cons_succ]
                refine wpAnyH_yield 11 62 (.bool (decide (b ≤ a))) rfl rfl (by kernel_rfl) (by kernel_rfl) (by kernel_rfl) (fun _ _ _ h => h) (by kernel_rfl) (fun W hW => by go_simp) (by assumption) rfl rfl ?_
                simp only [Act.put, List.setIfInBounds_toArray, List.set_cons_zero, List.set_cons_succ]
                refine wpAnyH_yield 12 63 (.bool (decide (b ≤ a))) rfl rfl (by kernel_rfl) (by kernel_rfl) (by kernel_rfl) (fun _ _ _ h => h) (by kernel_rfl) (fun W hW => by kernel_rfl) (by assumption) rfl rfl ?_
                simp only [Act.put, List.setIfInBounds_toArray, List.set_cons_zero, List.set_cons_succ]
                refine wpAnyH_yield 13 2 (.bool (decide (b ≤ a))) rfl rfl (by kernel_rfl) (by kernel_rfl) (by kernel_rfl) (fun _ _ _ h => h) (by kernel_rfl) (fun W hW => by kernel_rfl) (by assumption) rfl rfl ?_
                simp only [Act.put, List.setIfInBounds_toArray, List.set_cons_zero, List.set_cons_succ]
                refine wpAnyH_done (by kernel_rfl) ?_ _
                have T1 := hide (T0.tr hT0)
                clear T0 hT0 A0
                go_wp2_with fail
                go_ret
                exact ⟨rfl, T1.out⟩

end Go.Proofs.YtakpeopghhblmaaDoor
