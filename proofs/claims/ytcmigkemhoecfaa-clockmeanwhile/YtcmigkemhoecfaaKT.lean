/- The law's plays: a step on two clocks that are alike. -/
import Derived.Test.YtcmigkemhoecfaaKS
namespace Go.Proofs.Ytcmigkemhoecfaa
open Go.RowKit

set_option maxRecDepth 100000 in
set_option maxHeartbeats 4000000 in
theorem plays_any {Pk : World → Nat → (Nat → Prop) → List Int → List Hd → Prop} (I : Pki Pk) (q r : Nat) (G F : Nat → Prop) (L : List Int) (H : List Hd) (s : Stp) (w : World) (h : Pair Pk w q r G F L H) (hl : H.length ≤ capH) :
    Calls Try.prog 17 #[cp q, cp r, .agg (stpc s)] w fun e w' => e = .returned (.bool true) ∧ After Pk w q r G F H.length w' := by
  have hl2 : H.length ≤ 4600000000000 := hl
  have CN := fun x w => hide (num13_any x w)
  have T0 := hide ((Touch.refl (fun _ => False) w).alloc (.cells (stpc s) 39))
  have A0 := hide (al_new w (.cells (stpc s) 39))
  have h0 := h.touch I T0.out fun _ _ h => h
  have UP : Hid (∀ w', After Pk (w.alloc (.cells (stpc s) 39)) q r G F H.length w' → After Pk w q r G F H.length w') := hide fun w' h1 => by
    obtain ⟨t, G', F', L', H', h2, h3, h4⟩ := h1
    exact ⟨(T0.out.mono fun _ _ h => h.elim).trans t (fun _ _ h => h), G', F', L', H', h2, h3, fun g hg => (h4 g hg).imp id fun h5 => by rw [al_size] at h5; omega⟩
  have NS : Hid (∀ g, G g ∨ F g → ¬ g = w.heap.size) := hide fun g hg e => by
    rcases hg with hg | hg
    · have := I.lt h.p g hg; omega
    · have := h.r.lt g hg; omega
  have KC : Hid (∀ W, Touch (fun g => G g ∨ F g) (w.alloc (.cells (stpc s) 39)) W → W.cell? ⟨w.heap.size, 0, none⟩ = some (.int .i64 s.k) ∧ W.cell? ⟨w.heap.size, 3, none⟩ = some (.int .i64 s.src) ∧ W.cell? ⟨w.heap.size, 4, none⟩ = some (.int .i64 s.lv) ∧ W.cell? ⟨w.heap.size, 5, none⟩ = some (.string s.nm) ∧ W.cell? ⟨w.heap.size, 6, none⟩ = some (.int .i64 s.t)) := hide fun W hW => stp_cells (hW.heap A0.out (fun hg => NS.out _ hg rfl))
  have HP := hide h0
  clear h h0 T0 A0 NS
  obtain ⟨y0, y3, y4, y5, y6⟩ := KC.out _ (Touch.refl _ _)
  by_cases k1 : s.k = 1
  · have DONE : ∃ (a b e : Int), (∀ W, Pair Pk W q r G F L H → Calls Try.prog 27 #[cp q, .int .i64 s.src, .int .i64 s.t] W fun x w' => x = .returned (.tuple #[.int .i64 a, .int .i64 b, .int .i64 e]) ∧ Touch G W w' ∧ (Calls Try.prog 38 #[cp r, .int .i64 s.src, .int .i64 s.t] w' fun x w'' => x = .returned (.tuple #[.int .i64 a, .int .i64 b, .int .i64 e]) ∧ After Pk W q r G F H.length w'')) := by
      cases hb : setB L s.src s.t with
      | false =>
        refine ⟨0, 0, 5, fun W hW => (I.set_bad s.src s.t hW.p hb).mono ?_⟩
        rintro x w1 ⟨rfl, t1⟩
        refine ⟨rfl, t1.mono fun _ _ h => h.elim, ?_⟩
        have h1 := hW.touch I t1 fun _ _ h => h
        refine (rset_bad r F L H s.src s.t w1 h1.r hb).mono ?_
        rintro x w2 ⟨rfl, rfl⟩
        exact ⟨rfl, after_calm I hW t1⟩
      | true =>
        unfold setB at hb
        rw [Bool.and_eq_true, Bool.and_eq_true, decide_eq_true_eq, decide_eq_true_eq] at hb
        obtain ⟨b0, b1, b2⟩ := hb
        obtain ⟨i, hi⟩ := Int.eq_ofNat_of_zero_le b0
        rw [hi]
        have hi2 : i < L.length := by omega
        refine ⟨mkN L, mkN (L.set i (max (L.getD i 0) s.t)), 0, fun W hW => (I.set_ok i s.t hW.p hi2 b2).mono ?_⟩
        rintro x w1 ⟨rfl, t1, G', p1, g1⟩
        refine ⟨rfl, t1, ?_⟩
        have r1 := hW.r.touch t1 fun g hf hg => hW.ap g hg hf
        refine (rset_ok r F L H i s.t w1 r1 hi2 b2 (by have := I.len hW.p; omega)).mono ?_
        rintro x w2 ⟨rfl, r2, t2⟩
        exact ⟨rfl, after_two I hW t1 p1 g1 t2 r2 (fun g hg => .inl hg) (by omega)⟩
    obtain ⟨a, b, e, hD⟩ := DONE
    have C1 := hide (hD _ HP.out)
    clear hD
    go_enter Try.func17, Try.ntmps17
    go_wp2_with fail
    refine C1.out.mono ?_
    rintro x w1 ⟨rfl, t1, c2⟩
    have C2 := hide c2
    obtain ⟨z0, z3, z4, z5, z6⟩ := KC.out _ (t1.mono fun _ _ h => .inl h)
    clear c2 C1 t1 y0 y3 y4 y5 y6
    go_wp2_with fail
    refine C2.out.mono ?_
    rintro x w2 ⟨rfl, af⟩
    have AF := hide (UP.out _ af)
    clear af C2 UP KC z0 z3 z4 z5 z6
    go_wp2_with fail
    refine ((CN _ _).out).mono ?_
    rintro x w3 ⟨rfl, hw3⟩
    subst hw3
    go_wp2_with fail
    go_ret
    exact ⟨rfl, AF.out⟩
  by_cases k2 : s.k = 2
  · have DONE : ∃ (e : Int), (∀ W, Pair Pk W q r G F L H → Calls Try.prog 21 #[cp q, .string s.nm, .int .i64 s.t] W fun x w' => x = .returned (.int .i64 e) ∧ Touch G W w' ∧ (∀ V, Calm w' V → Calls Try.prog 22 #[cp r, .string s.nm, .int .i64 s.t] V fun x w'' => x = .returned (.int .i64 e) ∧ After Pk W q r G F H.length w'')) := by
      cases hb : timC s.t with
      | false =>
        refine ⟨2, fun W hW => (I.hold_bad s.nm s.t hW.p hb).mono ?_⟩
        rintro x w1 ⟨rfl, t1⟩
        refine ⟨rfl, t1.mono fun _ _ h => h.elim, fun V hV => ?_⟩
        refine (rhold_bad r s.nm s.t hb V).mono ?_
        rintro x w2 ⟨rfl, rfl⟩
        exact ⟨rfl, after_calm I hW (t1.tr hV)⟩
      | true =>
        refine ⟨0, fun W hW => (I.hold_ok s.nm s.t hW.p hb hl s.ok).mono ?_⟩
        rintro x w1 ⟨rfl, t1, G', p1, g1⟩
        refine ⟨rfl, t1, fun V hV => ?_⟩
        have r1 := (hW.r.touch t1 fun g hf hg => hW.ap g hg hf).calm hV
        refine (rhold_ok r F L H s.nm s.t V r1 hb (by omega)).mono ?_
        rintro x w2 ⟨rfl, t2, F', r2, g2⟩
        exact ⟨rfl, after_two I hW (t1.trans (hV.mono fun _ _ h => h.elim) (fun _ _ h => h)) (I.calm p1 hV) g1 t2 r2 g2 (hold_len H s.nm s.t)⟩
    obtain ⟨e, hD⟩ := DONE
    have C1 : Hid (∀ W, Calm (w.alloc (.cells (stpc s) 39)) W → Calls Try.prog 21 #[cp q, .string s.nm, .int .i64 s.t] W fun x w' => x = .returned (.int .i64 e) ∧ Touch G W w' ∧ (∀ V, Calm w' V → Calls Try.prog 22 #[cp r, .string s.nm, .int .i64 s.t] V fun x w'' => x = .returned (.int .i64 e) ∧ After Pk W q r G F H.length w'')) := hide fun W hW => hD W (HP.out.touch I hW fun _ _ h => h)
    have UP2 : Hid (∀ W w', Calm (w.alloc (.cells (stpc s) 39)) W → After Pk W q r G F H.length w' → Touch (fun g => G g ∨ F g) (w.alloc (.cells (stpc s) 39)) w' ∧ After Pk w q r G F H.length w') := hide fun W w' hW h1 => by
      obtain ⟨t, G', F', L', H', h2, h3, h4⟩ := h1
      have tt : Touch (fun g => G g ∨ F g) (w.alloc (.cells (stpc s) 39)) w' := (hW.mono fun _ _ h => h.elim).trans t (fun _ _ h => h)
      exact ⟨tt, UP.out w' ⟨tt, G', F', L', H', h2, h3, fun g hg => (h4 g hg).imp id fun h5 => by have := hW.size; omega⟩⟩
    clear hD HP UP
    go_enter Try.func17, Try.ntmps17
    go_wp2_with fail
    clear y0 y3 y4 y5 y6
    generalize w.alloc (.cells (stpc s) 39) = w0 at *
    generalize w.heap.size = B at *
    refine wp_region_held (S := Touch (fun g => G g ∨ F g) w0) (by kernel_rfl) ?_
    have hC0 : Calm w0 { w0 with drawn := w0.drawn + 1 } := (Touch.refl _ w0).drew
    have hT0 : Touch (fun g => G g ∨ F g) w0 { w0 with drawn := w0.drawn + 1 } := (Touch.refl _ w0).drew
    refine wpAnyH_yield 0 53 (cp q) rfl rfl (by kernel_rfl) (by kernel_rfl) (by kernel_rfl) (fun _ _ _ h => h) (by kernel_rfl) (fun W hW => by kernel_rfl) (by assumption) rfl rfl ?_
    simp only [Act.put, List.setIfInBounds_toArray, List.set_cons_zero, List.set_cons_succ]
    refine wpAnyH_yield 1 54 (.pointer (some ⟨B, 5, none⟩)) rfl rfl (by kernel_rfl) (by kernel_rfl) (by kernel_rfl) (fun _ _ _ h => h) (by kernel_rfl) (fun W hW => by go_simp) (by assumption) rfl rfl ?_
    simp only [Act.put, List.setIfInBounds_toArray, List.set_cons_zero, List.set_cons_succ]
    refine wpAnyH_yield 2 55 (.string s.nm) rfl rfl (by kernel_rfl) (by kernel_rfl) (by kernel_rfl) (fun _ _ _ h => h) (by kernel_rfl) (fun W hW => by obtain ⟨-, -, -, z5, -⟩ := KC.out W hW; go_simp) (by assumption) rfl rfl ?_
    simp only [Act.put, List.setIfInBounds_toArray, List.set_cons_zero, List.set_cons_succ]
    refine wpAnyH_yield 3 56 (.pointer (some ⟨B, 6, none⟩)) rfl rfl (by kernel_rfl) (by kernel_rfl) (by kernel_rfl) (fun _ _ _ h => h) (by kernel_rfl) (fun W hW => by go_simp) (by assumption) rfl rfl ?_
    simp only [Act.put, List.setIfInBounds_toArray, List.set_cons_zero, List.set_cons_succ]
    refine wpAnyH_yield 4 57 (.int .i64 s.t) rfl rfl (by kernel_rfl) (by kernel_rfl) (by kernel_rfl) (fun _ _ _ h => h) (by kernel_rfl) (fun W hW => by obtain ⟨-, -, -, -, z6⟩ := KC.out W hW; go_simp) (by assumption) rfl rfl ?_
    simp only [Act.put, List.setIfInBounds_toArray, List.set_cons_zero, List.set_cons_succ]
    refine wpAnyH_yield 7 60 (cp r) rfl rfl (by kernel_rfl) (by kernel_rfl) (by kernel_rfl) (fun _ _ _ h => h) (by kernel_rfl) (fun W hW => by kernel_rfl) (by assumption) rfl rfl ?_
    simp only [Act.put, List.setIfInBounds_toArray, List.set_cons_zero, List.set_cons_succ]
    refine wpAnyH_yield 8 61 (.pointer (some ⟨B, 5, none⟩)) rfl rfl (by kernel_rfl) (by kernel_rfl) (by kernel_rfl) (fun _ _ _ h => h) (by kernel_rfl) (fun W hW => by go_simp) (by assumption) rfl rfl ?_
    simp only [Act.put, List.setIfInBounds_toArray, List.set_cons_zero, List.set_cons_succ]
    refine wpAnyH_yield 9 62 (.string s.nm) rfl rfl (by kernel_rfl) (by kernel_rfl) (by kernel_rfl) (fun _ _ _ h => h) (by kernel_rfl) (fun W hW => by obtain ⟨-, -, -, z5, -⟩ := KC.out W hW; go_simp) (by assumption) rfl rfl ?_
    simp only [Act.put, List.setIfInBounds_toArray, List.set_cons_zero, List.set_cons_succ]
    refine wpAnyH_yield 10 63 (.pointer (some ⟨B, 6, none⟩)) rfl rfl (by kernel_rfl) (by kernel_rfl) (by kernel_rfl) (fun _ _ _ h => h) (by kernel_rfl) (fun W hW => by go_simp) (by assumption) rfl rfl ?_
    simp only [Act.put, List.setIfInBounds_toArray, List.set_cons_zero, List.set_cons_succ]
    refine wpAnyH_yield 11 64 (.int .i64 s.t) rfl rfl (by kernel_rfl) (by kernel_rfl) (by kernel_rfl) (fun _ _ _ h => h) (by kernel_rfl) (fun W hW => by obtain ⟨-, -, -, -, z6⟩ := KC.out W hW; go_simp) (by assumption) rfl rfl ?_
    simp only [Act.put, List.setIfInBounds_toArray, List.set_cons_zero, List.set_cons_succ]
    refine wpAnyH_enter 5 58 21 #[cp q, .string s.nm, .int .i64 s.t] rfl rfl (by kernel_rfl) (by kernel_rfl) (by kernel_rfl) ?_
    refine (C1.out _ hC0).mono ?_
    rintro x w1 ⟨rfl, t1, c2⟩
    have h1 : Touch (fun g => G g ∨ F g) w0 w1 := hT0.trans (t1.mono fun _ _ h => .inl h) (fun _ _ h => h)
    refine ⟨_, rfl, h1, ?_⟩
    simp only [Act.put, List.setIfInBounds_toArray, List.set_cons_zero, List.set_cons_succ]
    refine wpAnyH_enter 6 59 12 #[.int .i64 e] rfl rfl (by kernel_rfl) (by kernel_rfl) (by kernel_rfl) ?_
    refine ((CN _ _).out).mono ?_
    rintro x w2 ⟨rfl, hw2⟩
    subst hw2
    refine ⟨_, rfl, h1, ?_⟩
    simp only [Act.put, List.setIfInBounds_toArray, List.set_cons_zero, List.set_cons_succ]
    refine wpAnyH_enter 12 65 22 #[cp r, .string s.nm, .int .i64 s.t] rfl rfl (by kernel_rfl) (by kernel_rfl) (by kernel_rfl) ?_
    refine (c2 _ (Touch.refl _ _)).mono ?_
    rintro x w3 ⟨rfl, af⟩
    obtain ⟨h3, af2⟩ := UP2.out _ _ hC0 af
    refine ⟨_, rfl, h3, ?_⟩
    simp only [Act.put, List.setIfInBounds_toArray, List.set_cons_zero, List.set_cons_succ]
    refine wpAnyH_yield 13 66 (.bool true) rfl rfl (by kernel_rfl) (by kernel_rfl) (by kernel_rfl) (fun _ _ _ h => h) (by kernel_rfl) (fun W hW => by go_simp) (by assumption) rfl rfl ?_
    simp only [Act.put, List.setIfInBounds_toArray, List.set_cons_zero, List.set_cons_succ]
    refine wpAnyH_yield 14 6 (.bool true) rfl rfl (by kernel_rfl) (by kernel_rfl) (by kernel_rfl) (fun _ _ _ h => h) (by kernel_rfl) (fun W hW => by kernel_rfl) (by assumption) rfl rfl ?_
    simp only [Act.put, List.setIfInBounds_toArray, List.set_cons_zero, List.set_cons_succ]
    refine wpAnyH_done (by kernel_rfl) ?_ _
    have AF := hide af2
    clear hC0 hT0 t1 c2 h1 af h3 af2 C1 UP2 KC
    go_wp2_with fail
    go_ret
    exact ⟨rfl, AF.out⟩
  by_cases k3 : s.k = 3
  · have hD : ∀ W, Pair Pk W q r G F L H → Calls Try.prog 28 #[cp q, .string s.nm] W fun x w' => x = .returned (.bool (hasH H s.nm)) ∧ Touch G W w' ∧ (∀ V, Calm w' V → Calls Try.prog 39 #[cp r, .string s.nm] V fun x w'' => x = .returned (.bool (hasH H s.nm)) ∧ After Pk W q r G F H.length w'') := by
      refine fun W hW => (I.free s.nm hW.p hl s.ok).mono ?_
      rintro x w1 ⟨rfl, t1, G', p1, g1⟩
      refine ⟨rfl, t1, fun V hV => ?_⟩
      have r1 := (hW.r.touch t1 fun g hf hg => hW.ap g hg hf).calm hV
      refine (rfree_any r F L H s.nm V r1 (by omega)).mono ?_
      rintro x w2 ⟨rfl, t2, F', r2, g2⟩
      exact ⟨rfl, after_two I hW (t1.trans (hV.mono fun _ _ h => h.elim) (fun _ _ h => h)) (I.calm p1 hV) g1 t2 r2 g2 (by have := free_len H s.nm; omega)⟩
    generalize hasH H s.nm = e at *
    have C1 : Hid (∀ W, Calm (w.alloc (.cells (stpc s) 39)) W → Calls Try.prog 28 #[cp q, .string s.nm] W fun x w' => x = .returned (.bool e) ∧ Touch G W w' ∧ (∀ V, Calm w' V → Calls Try.prog 39 #[cp r, .string s.nm] V fun x w'' => x = .returned (.bool e) ∧ After Pk W q r G F H.length w'')) := hide fun W hW => hD W (HP.out.touch I hW fun _ _ h => h)
    have UP2 : Hid (∀ W w', Calm (w.alloc (.cells (stpc s) 39)) W → After Pk W q r G F H.length w' → Touch (fun g => G g ∨ F g) (w.alloc (.cells (stpc s) 39)) w' ∧ After Pk w q r G F H.length w') := hide fun W w' hW h1 => by
      obtain ⟨t, G', F', L', H', h2, h3, h4⟩ := h1
      have tt : Touch (fun g => G g ∨ F g) (w.alloc (.cells (stpc s) 39)) w' := (hW.mono fun _ _ h => h.elim).trans t (fun _ _ h => h)
      exact ⟨tt, UP.out w' ⟨tt, G', F', L', H', h2, h3, fun g hg => (h4 g hg).imp id fun h5 => by have := hW.size; omega⟩⟩
    clear hD HP UP
    go_enter Try.func17, Try.ntmps17
    go_wp2_with fail
    clear y0 y3 y4 y5 y6
    generalize w.alloc (.cells (stpc s) 39) = w0 at *
    generalize w.heap.size = B at *
    refine wp_region_held (S := Touch (fun g => G g ∨ F g) w0) (by kernel_rfl) ?_
    have hC0 : Calm w0 { w0 with drawn := w0.drawn + 1 } := (Touch.refl _ w0).drew
    have hT0 : Touch (fun g => G g ∨ F g) w0 { w0 with drawn := w0.drawn + 1 } := (Touch.refl _ w0).drew
    refine wpAnyH_yield 0 69 (cp q) rfl rfl (by kernel_rfl) (by kernel_rfl) (by kernel_rfl) (fun _ _ _ h => h) (by kernel_rfl) (fun W hW => by kernel_rfl) (by assumption) rfl rfl ?_
    simp only [Act.put, List.setIfInBounds_toArray, List.set_cons_zero, List.set_cons_succ]
    refine wpAnyH_yield 1 70 (.pointer (some ⟨B, 5, none⟩)) rfl rfl (by kernel_rfl) (by kernel_rfl) (by kernel_rfl) (fun _ _ _ h => h) (by kernel_rfl) (fun W hW => by go_simp) (by assumption) rfl rfl ?_
    simp only [Act.put, List.setIfInBounds_toArray, List.set_cons_zero, List.set_cons_succ]
    refine wpAnyH_yield 2 71 (.string s.nm) rfl rfl (by kernel_rfl) (by kernel_rfl) (by kernel_rfl) (fun _ _ _ h => h) (by kernel_rfl) (fun W hW => by obtain ⟨-, -, -, z5, -⟩ := KC.out W hW; go_simp) (by assumption) rfl rfl ?_
    simp only [Act.put, List.setIfInBounds_toArray, List.set_cons_zero, List.set_cons_succ]
    refine wpAnyH_yield 4 73 (cp r) rfl rfl (by kernel_rfl) (by kernel_rfl) (by kernel_rfl) (fun _ _ _ h => h) (by kernel_rfl) (fun W hW => by kernel_rfl) (by assumption) rfl rfl ?_
    simp only [Act.put, List.setIfInBounds_toArray, List.set_cons_zero, List.set_cons_succ]
    refine wpAnyH_yield 5 74 (.pointer (some ⟨B, 5, none⟩)) rfl rfl (by kernel_rfl) (by kernel_rfl) (by kernel_rfl) (fun _ _ _ h => h) (by kernel_rfl) (fun W hW => by go_simp) (by assumption) rfl rfl ?_
    simp only [Act.put, List.setIfInBounds_toArray, List.set_cons_zero, List.set_cons_succ]
    refine wpAnyH_yield 6 75 (.string s.nm) rfl rfl (by kernel_rfl) (by kernel_rfl) (by kernel_rfl) (fun _ _ _ h => h) (by kernel_rfl) (fun W hW => by obtain ⟨-, -, -, z5, -⟩ := KC.out W hW; go_simp) (by assumption) rfl rfl ?_
    simp only [Act.put, List.setIfInBounds_toArray, List.set_cons_zero, List.set_cons_succ]
    refine wpAnyH_enter 3 72 28 #[cp q, .string s.nm] rfl rfl (by kernel_rfl) (by kernel_rfl) (by kernel_rfl) ?_
    refine (C1.out _ hC0).mono ?_
    rintro x w1 ⟨rfl, t1, c2⟩
    have h1 : Touch (fun g => G g ∨ F g) w0 w1 := hT0.trans (t1.mono fun _ _ h => .inl h) (fun _ _ h => h)
    refine ⟨_, rfl, h1, ?_⟩
    simp only [Act.put, List.setIfInBounds_toArray, List.set_cons_zero, List.set_cons_succ]
    refine wpAnyH_enter 7 76 39 #[cp r, .string s.nm] rfl rfl (by kernel_rfl) (by kernel_rfl) (by kernel_rfl) ?_
    refine (c2 _ (Touch.refl _ _)).mono ?_
    rintro x w3 ⟨rfl, af⟩
    obtain ⟨h3, af2⟩ := UP2.out _ _ hC0 af
    refine ⟨_, rfl, h3, ?_⟩
    simp only [Act.put, List.setIfInBounds_toArray, List.set_cons_zero, List.set_cons_succ]
    refine wpAnyH_yield 8 77 (.bool true) rfl rfl (by kernel_rfl) (by kernel_rfl) (by kernel_rfl) (fun _ _ _ h => h) (by kernel_rfl) (fun W hW => by cases e <;> go_simp) (by assumption) rfl rfl ?_
    simp only [Act.put, List.setIfInBounds_toArray, List.set_cons_zero, List.set_cons_succ]
    refine wpAnyH_yield 9 6 (.bool true) rfl rfl (by kernel_rfl) (by kernel_rfl) (by kernel_rfl) (fun _ _ _ h => h) (by kernel_rfl) (fun W hW => by kernel_rfl) (by assumption) rfl rfl ?_
    simp only [Act.put, List.setIfInBounds_toArray, List.set_cons_zero, List.set_cons_succ]
    refine wpAnyH_done (by kernel_rfl) ?_ _
    have AF := hide af2
    clear hC0 hT0 t1 c2 h1 af h3 af2 C1 UP2 KC
    go_wp2_with fail
    go_ret
    exact ⟨rfl, AF.out⟩
  have AC : Hid (∀ w', Calm (w.alloc (.cells (stpc s) 39)) w' → After Pk w q r G F H.length w') := hide fun w' t => UP.out w' (after_calm I HP.out t)
  by_cases k4 : s.k = 4
  · have CT := hide (tells_any (cp q) (cp r) L H _ _ _ (told_of I HP.out.p HP.out.r hl))
    clear HP UP KC
    go_enter Try.func17, Try.ntmps17
    go_wp2_with fail
    refine CT.out.mono ?_
    rintro x w1 ⟨rfl, t1⟩
    have AF := hide (AC.out w1 t1)
    clear t1 AC CT
    go_wp2_with fail
    go_ret
    exact ⟨rfl, AF.out⟩
  by_cases k5 : s.k = 5
  · obtain ⟨ho, hc, hw⟩ := want_of HP.out.r
    have CG := hide (goes_any (cp q) (cp r) s.lv ho hc H _ (fun W hW => I.holds (HP.out.touch I hW fun _ _ h => h).p hl) hw (by omega))
    clear HP UP KC hw
    go_enter Try.func17, Try.ntmps17
    go_wp2_with fail
    refine CG.out.mono ?_
    rintro x w1 ⟨rfl, t1⟩
    have AF := hide (AC.out w1 t1)
    clear t1 AC CG
    go_wp2_with fail
    go_ret
    exact ⟨rfl, AF.out⟩
  · have AF := hide (AC.out _ (Touch.refl _ _))
    clear HP UP KC AC
    go_enter Try.func17, Try.ntmps17
    go_wp2_with fail
    go_ret
    exact ⟨rfl, AF.out⟩

end Go.Proofs.Ytcmigkemhoecfaa
