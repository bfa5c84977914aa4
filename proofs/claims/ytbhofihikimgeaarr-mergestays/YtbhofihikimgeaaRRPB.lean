/- The program's Apart. -/
import Derived.Test.YtbhofihikimgeaaRRPA
namespace Go.Proofs.YtbhofihikimgeaaRR
open Go.RowKit

/-- Each window in order, and behind the one ahead of it. -/
def stepOk (L : List Wn) (i : Nat) : Prop := okW (L.getD i wn0) = true ∧ ∀ k, i = k + 1 → (L.getD k wn0).b ≤ (L.getD i wn0).a

theorem okW_lt {x : Wn} (h : okW x = true) : x.a < x.b := by unfold okW at h; simp only [Bool.and_eq_true, decide_eq_true_eq] at h; exact h.1

theorem chain_le {L : List Wn} {n : Nat} (h : ∀ i, i < n → stepOk L i) (k : Nat) : ∀ d, k + 1 + d < n → (L.getD k wn0).b ≤ (L.getD (k + 1 + d) wn0).a
  | 0, hd => (h (k + 1) hd).2 k rfl
  | d + 1, hd => by
    have ih := chain_le h k d (by omega)
    have h1 := okW_lt (h (k + 1 + d) (by omega)).1
    have h2 := (h (k + 1 + (d + 1)) hd).2 (k + 1 + d) rfl
    omega

theorem over_not {x y : Sp} (h : x.b ≤ y.a) : over x y = false := by
  unfold over
  rw [decide_eq_false (show ¬ y.a < x.b by omega)]
  simp

theorem steps_apart {L : List Wn} (h : ∀ i, i < L.length → stepOk L i) : apartR L = true :=
  apart_yes fun i hi => rowAt_yes (h i hi).1 fun k hk => by
    have h1 := chain_le h k (i - (k + 1)) (by omega)
    have e : k + 1 + (i - (k + 1)) = i := by omega
    rw [e] at h1
    have h2 := okW_lt (h k (by omega)).1
    unfold pairOk
    rw [over_not (x := (L.getD k wn0).sp) (y := (L.getD i wn0).sp) h1, decide_eq_true (show (L.getD k wn0).a < (L.getD i wn0).a by omega)]
    rfl

theorem step_not {L : List Wn} {k : Nat} (hk : k + 1 < L.length) (h1 : okW (L.getD k wn0) = true) (h2 : okW (L.getD (k + 1) wn0) = true) (h : (L.getD (k + 1) wn0).a < (L.getD k wn0).b) : apartR L = false := by
  refine apart_no hk (rowAt_no2 (Nat.lt_succ_self k) ?_)
  have a1 := okW_lt h1
  have a2 := okW_lt h2
  unfold pairOk over
  simp only
  rw [decide_eq_true a1, decide_eq_true a2, decide_eq_true h]
  by_cases h3 : (L.getD k wn0).a < (L.getD (k + 1) wn0).b
  · rw [decide_eq_true h3]; rfl
  · rw [decide_eq_false (show ¬ (L.getD k wn0).a < (L.getD (k + 1) wn0).a by omega)]; simp

set_option maxRecDepth 100000 in
set_option maxHeartbeats 2000000 in
theorem apart_any (ao : Option Addr) (cap : Nat) (L : List Wn) (w : World) (hm : encW.Mem w ao L) (hn : L.length ≤ 140737488355328) :
    Calls Try.prog 11 #[.slice ao L.length cap] w fun e w' => e = .returned (.bool (apartR L)) ∧ Calm w w' := by
  have CS := fun x w => hide (isSession_any x w)
  have HA : Hid (∀ k, k < L.length → ∀ W, Calm w W → _) := hide fun k hk W hW => wn_at (Rc.Mem.calm hm hW) k hk
  have HY := hide (@steps_apart L)
  have HN : Hid (∀ i, i < L.length → okW (L.getD i wn0) = false → apartR L = false) := hide fun i h g => apart_no h (rowAt_no1 g)
  have HS : Hid (∀ k, k + 1 < L.length → okW (L.getD k wn0) = true → okW (L.getD (k + 1) wn0) = true → (L.getD (k + 1) wn0).a < (L.getD k wn0).b → apartR L = false) := hide fun k => step_not
  generalize hap : apartR L = ap at *
  generalize hN : L.length = n at *
  clear hap hN hm
  go_enter Try.func11, Try.ntmps11
  go_wp2_with fail
  go_loopw [7] (fun i wr => ∃ k : Nat, i = .int .i64 k ∧ k ≤ n ∧ (∀ j, j < k → stepOk L j) ∧ Calm w wr) (fun i _ => n - (intOf i).toNat)
  case atStart => exact ⟨0, rfl, Nat.zero_le _, fun j hj => absurd hj (by omega), Touch.refl _ _⟩
  case round =>
    obtain ⟨i, rfl, hi, hall, T0⟩ := hrel
    by_cases hlt : i < n
    · obtain ⟨b, off, rfl, ⟨c0, c1, c2⟩, ⟨c3, c4, c5, c6⟩, c7, c8⟩ := HA.out i hlt wr T0
      have N1 : Hid (okW (L.getD i wn0) = false → false = ap) := hide fun h => (HN.out i hlt h).symm
      have N2 : Hid (∀ k, i = k + 1 → okW (L.getD i wn0) = true → (L.getD i wn0).a < (L.getD k wn0).b → false = ap) := hide fun k hk h2 h3 => by
        subst hk
        exact (HS.out k hlt (hall k (by omega)).1 h2 h3).symm
      have Y1 : Hid (okW (L.getD i wn0) = true → (∀ k, i = k + 1 → (L.getD k wn0).b ≤ (L.getD i wn0).a) → ∀ j, j < i + 1 → stepOk L j) := hide fun h h2 j hj => by
        rcases Nat.lt_or_ge j i with h3 | h3
        · exact hall j h3
        · obtain rfl : j = i := by omega
          exact ⟨h, h2⟩
      have KY : Hid (∀ k, k < i → ∀ W, Calm w W → W.cell? ⟨b, off + k * 9 + 1, none⟩ = some (.int .i64 (L.getD k wn0).b)) := hide fun k hk W hW => by
        obtain ⟨b', off', e, ⟨c0, c1, -⟩, -⟩ := HA.out k (by omega) W hW
        injection e with e
        injection e with e1 e2
        subst e1 e2
        exact c1
      generalize L.getD i wn0 = x at *
      clear HY HN HS hall HA
      have HT := hide T0
      clear T0
      have C1 := fun w => CS x w
      clear CS
      go_wp2_with fail
      clear c0 c1 c2 c3 c4 c5 c6 c7 c8
      have A0 := al_new wr (.cells (wnc x) 43)
      have T1 := HT.out.alloc (.cells (wnc x) 43)
      generalize wr.alloc (.cells (wnc x) 43) = w1 at *
      generalize wr.heap.size = D at *
      have HD := hide A0
      have HT1 := hide T1
      clear A0 T1 HT
      generalize okW x = ok at *
      refine wp_region_held (S := Calm w1) (by kernel_rfl) ?_
      have hT0 : Calm w1 { w1 with drawn := w1.drawn + 1 } := (Touch.refl (fun _ => False) w1).drew
      refine wpAnyH_yield 0 12 (wnv x) rfl rfl (by kernel_rfl) (by kernel_rfl) (by kernel_rfl) (fun _ _ _ h => h) (by kernel_rfl) (fun W hW => by obtain ⟨⟨c0, c1, c2⟩, ⟨c3, c4, c5, c6⟩, c7, c8⟩ := wn_cells (hW.at HD.out); go_simp) (by assumption) rfl rfl ?_
      simp only [Act.put, List.setIfInBounds_toArray, List.set_cons_zero, List.set_cons_succ]
      refine wpAnyH_enter 1 13 24 #[wnv x] rfl rfl (by kernel_rfl) (by kernel_rfl) (by kernel_rfl) ?_
      refine ((C1 _).out).mono ?_
      rintro r w5 ⟨rfl, T5⟩
      have h5 := hT0.tr T5
      refine ⟨_, rfl, h5, ?_⟩
      simp only [Act.put, List.setIfInBounds_toArray, List.set_cons_zero, List.set_cons_succ]
      cases ok with
      | false =>
        refine wpAnyH_yield 2 14 (.bool true) rfl rfl (by kernel_rfl) (by kernel_rfl) (by kernel_rfl) (fun _ _ _ h => h) (by kernel_rfl) (fun W hW => by kernel_rfl) (by assumption) rfl rfl ?_
        simp only [Act.put, List.setIfInBounds_toArray, List.set_cons_zero, List.set_cons_succ]
        refine wpAnyH_yield 3 15 (.bool true) rfl rfl (by kernel_rfl) (by kernel_rfl) (by kernel_rfl) (fun _ _ _ h => h) (by kernel_rfl) (fun W hW => by kernel_rfl) (by assumption) rfl rfl ?_
        simp only [Act.put, List.setIfInBounds_toArray, List.set_cons_zero, List.set_cons_succ]
        refine wpAnyH_skip 4 16 rfl rfl (by kernel_rfl) (by kernel_rfl) (by kernel_rfl) (fun _ _ _ h => h) (by kernel_rfl) (by assumption) rfl rfl ?_
        simp only [Act.put, List.setIfInBounds_toArray, List.set_cons_zero, List.set_cons_succ]
        refine wpAnyH_skip 5 17 rfl rfl (by kernel_rfl) (by kernel_rfl) (by kernel_rfl) (fun _ _ _ h => h) (by kernel_rfl) (by assumption) rfl rfl ?_
        simp only [Act.put, List.setIfInBounds_toArray, List.set_cons_zero, List.set_cons_succ]
        refine wpAnyH_skip 6 18 rfl rfl (by kernel_rfl) (by kernel_rfl) (by kernel_rfl) (fun _ _ _ h => h) (by kernel_rfl) (by assumption) rfl rfl ?_
        simp only [Act.put, List.setIfInBounds_toArray, List.set_cons_zero, List.set_cons_succ]
        refine wpAnyH_skip 7 19 rfl rfl (by kernel_rfl) (by kernel_rfl) (by kernel_rfl) (fun _ _ _ h => h) (by kernel_rfl) (by assumption) rfl rfl ?_
        simp only [Act.put, List.setIfInBounds_toArray, List.set_cons_zero, List.set_cons_succ]
        refine wpAnyH_skip 8 20 rfl rfl (by kernel_rfl) (by kernel_rfl) (by kernel_rfl) (fun _ _ _ h => h) (by kernel_rfl) (by assumption) rfl rfl ?_
        simp only [Act.put, List.setIfInBounds_toArray, List.set_cons_zero, List.set_cons_succ]
        refine wpAnyH_skip 9 21 rfl rfl (by kernel_rfl) (by kernel_rfl) (by kernel_rfl) (fun _ _ _ h => h) (by kernel_rfl) (by assumption) rfl rfl ?_
        simp only [Act.put, List.setIfInBounds_toArray, List.set_cons_zero, List.set_cons_succ]
        refine wpAnyH_skip 10 22 rfl rfl (by kernel_rfl) (by kernel_rfl) (by kernel_rfl) (fun _ _ _ h => h) (by kernel_rfl) (by assumption) rfl rfl ?_
        simp only [Act.put, List.setIfInBounds_toArray, List.set_cons_zero, List.set_cons_succ]
        refine wpAnyH_skip 11 23 rfl rfl (by kernel_rfl) (by kernel_rfl) (by kernel_rfl) (fun _ _ _ h => h) (by kernel_rfl) (by assumption) rfl rfl ?_
        simp only [Act.put, List.setIfInBounds_toArray, List.set_cons_zero, List.set_cons_succ]
        refine wpAnyH_skip 12 24 rfl rfl (by kernel_rfl) (by kernel_rfl) (by kernel_rfl) (fun _ _ _ h => h) (by kernel_rfl) (by assumption) rfl rfl ?_
        simp only [Act.put, List.setIfInBounds_toArray, List.set_cons_zero, List.set_cons_succ]
        refine wpAnyH_skip 13 25 rfl rfl (by kernel_rfl) (by kernel_rfl) (by kernel_rfl) (fun _ _ _ h => h) (by kernel_rfl) (by assumption) rfl rfl ?_
        simp only [Act.put, List.setIfInBounds_toArray, List.set_cons_zero, List.set_cons_succ]
        refine wpAnyH_skip 14 26 rfl rfl (by kernel_rfl) (by kernel_rfl) (by kernel_rfl) (fun _ _ _ h => h) (by kernel_rfl) (by assumption) rfl rfl ?_
        simp only [Act.put, List.setIfInBounds_toArray, List.set_cons_zero, List.set_cons_succ]
        refine wpAnyH_skip 15 27 rfl rfl (by kernel_rfl) (by kernel_rfl) (by kernel_rfl) (fun _ _ _ h => h) (by kernel_rfl) (by assumption) rfl rfl ?_
        simp only [Act.put, List.setIfInBounds_toArray, List.set_cons_zero, List.set_cons_succ]
        refine wpAnyH_skip 16 28 rfl rfl (by kernel_rfl) (by kernel_rfl) (by kernel_rfl) (fun _ _ _ h => h) (by kernel_rfl) (by assumption) rfl rfl ?_
        simp only [Act.put, List.setIfInBounds_toArray, List.set_cons_zero, List.set_cons_succ]
        refine wpAnyH_skip 17 29 rfl rfl (by kernel_rfl) (by kernel_rfl) (by kernel_rfl) (fun _ _ _ h => h) (by kernel_rfl) (by assumption) rfl rfl ?_
        simp only [Act.put, List.setIfInBounds_toArray, List.set_cons_zero, List.set_cons_succ]
        refine wpAnyH_skip 18 30 rfl rfl (by kernel_rfl) (by kernel_rfl) (by kernel_rfl) (fun _ _ _ h => h) (by kernel_rfl) (by assumption) rfl rfl ?_
        simp only [Act.put, List.setIfInBounds_toArray, List.set_cons_zero, List.set_cons_succ]
        refine wpAnyH_yield 19 31 (.bool true) rfl rfl (by kernel_rfl) (by kernel_rfl) (by kernel_rfl) (fun _ _ _ h => h) (by kernel_rfl) (fun W hW => by kernel_rfl) (by assumption) rfl rfl ?_
        simp only [Act.put, List.setIfInBounds_toArray, List.set_cons_zero, List.set_cons_succ]
        refine wpAnyH_done (by kernel_rfl) ?_ _
        have H3 := hide h5
        clear hT0 T5 h5 C1
        go_wp2_with fail
        go_ret
        exact ⟨by rw [← N1.out (by simp)]; rfl, HT1.out.tr H3.out⟩
      | true =>
        cases i with
        | zero =>
          refine wpAnyH_yield 2 14 (.bool false) rfl rfl (by kernel_rfl) (by kernel_rfl) (by kernel_rfl) (fun _ _ _ h => h) (by kernel_rfl) (fun W hW => by kernel_rfl) (by assumption) rfl rfl ?_
          simp only [Act.put, List.setIfInBounds_toArray, List.set_cons_zero, List.set_cons_succ]
          refine wpAnyH_yield 3 15 (.bool false) rfl rfl (by kernel_rfl) (by kernel_rfl) (by kernel_rfl) (fun _ _ _ h => h) (by kernel_rfl) (fun W hW => by kernel_rfl) (by assumption) rfl rfl ?_
          simp only [Act.put, List.setIfInBounds_toArray, List.set_cons_zero, List.set_cons_succ]
          refine wpAnyH_yield 4 16 (.int .i64 ((0 : Nat) : Int)) rfl rfl (by kernel_rfl) (by kernel_rfl) (by kernel_rfl) (fun _ _ _ h => h) (by kernel_rfl) (fun W hW => by kernel_rfl) (by assumption) rfl rfl ?_
          simp only [Act.put, List.setIfInBounds_toArray, List.set_cons_zero, List.set_cons_succ]
          refine wpAnyH_yield 5 17 (.bool false) rfl rfl (by kernel_rfl) (by kernel_rfl) (by kernel_rfl) (fun _ _ _ h => h) (by kernel_rfl) (fun W hW => by go_simp) (by assumption) rfl rfl ?_
          simp only [Act.put, List.setIfInBounds_toArray, List.set_cons_zero, List.set_cons_succ]
          refine wpAnyH_yield 6 18 (.bool false) rfl rfl (by kernel_rfl) (by kernel_rfl) (by kernel_rfl) (fun _ _ _ h => h) (by kernel_rfl) (fun W hW => by kernel_rfl) (by assumption) rfl rfl ?_
          simp only [Act.put, List.setIfInBounds_toArray, List.set_cons_zero, List.set_cons_succ]
          refine wpAnyH_skip 7 19 rfl rfl (by kernel_rfl) (by kernel_rfl) (by kernel_rfl) (fun _ _ _ h => h) (by kernel_rfl) (by assumption) rfl rfl ?_
          simp only [Act.put, List.setIfInBounds_toArray, List.set_cons_zero, List.set_cons_succ]
          refine wpAnyH_skip 8 20 rfl rfl (by kernel_rfl) (by kernel_rfl) (by kernel_rfl) (fun _ _ _ h => h) (by kernel_rfl) (by assumption) rfl rfl ?_
          simp only [Act.put, List.setIfInBounds_toArray, List.set_cons_zero, List.set_cons_succ]
          refine wpAnyH_skip 9 21 rfl rfl (by kernel_rfl) (by kernel_rfl) (by kernel_rfl) (fun _ _ _ h => h) (by kernel_rfl) (by assumption) rfl rfl ?_
          simp only [Act.put, List.setIfInBounds_toArray, List.set_cons_zero, List.set_cons_succ]
          refine wpAnyH_skip 10 22 rfl rfl (by kernel_rfl) (by kernel_rfl) (by kernel_rfl) (fun _ _ _ h => h) (by kernel_rfl) (by assumption) rfl rfl ?_
          simp only [Act.put, List.setIfInBounds_toArray, List.set_cons_zero, List.set_cons_succ]
          refine wpAnyH_skip 11 23 rfl rfl (by kernel_rfl) (by kernel_rfl) (by kernel_rfl) (fun _ _ _ h => h) (by kernel_rfl) (by assumption) rfl rfl ?_
          simp only [Act.put, List.setIfInBounds_toArray, List.set_cons_zero, List.set_cons_succ]
          refine wpAnyH_skip 12 24 rfl rfl (by kernel_rfl) (by kernel_rfl) (by kernel_rfl) (fun _ _ _ h => h) (by kernel_rfl) (by assumption) rfl rfl ?_
          simp only [Act.put, List.setIfInBounds_toArray, List.set_cons_zero, List.set_cons_succ]
          refine wpAnyH_skip 13 25 rfl rfl (by kernel_rfl) (by kernel_rfl) (by kernel_rfl) (fun _ _ _ h => h) (by kernel_rfl) (by assumption) rfl rfl ?_
          simp only [Act.put, List.setIfInBounds_toArray, List.set_cons_zero, List.set_cons_succ]
          refine wpAnyH_skip 14 26 rfl rfl (by kernel_rfl) (by kernel_rfl) (by kernel_rfl) (fun _ _ _ h => h) (by kernel_rfl) (by assumption) rfl rfl ?_
          simp only [Act.put, List.setIfInBounds_toArray, List.set_cons_zero, List.set_cons_succ]
          refine wpAnyH_skip 15 27 rfl rfl (by kernel_rfl) (by kernel_rfl) (by kernel_rfl) (fun _ _ _ h => h) (by kernel_rfl) (by assumption) rfl rfl ?_
          simp only [Act.put, List.setIfInBounds_toArray, List.set_cons_zero, List.set_cons_succ]
          refine wpAnyH_skip 16 28 rfl rfl (by kernel_rfl) (by kernel_rfl) (by kernel_rfl) (fun _ _ _ h => h) (by kernel_rfl) (by assumption) rfl rfl ?_
          simp only [Act.put, List.setIfInBounds_toArray, List.set_cons_zero, List.set_cons_succ]
          refine wpAnyH_skip 17 29 rfl rfl (by kernel_rfl) (by kernel_rfl) (by kernel_rfl) (fun _ _ _ h => h) (by kernel_rfl) (by assumption) rfl rfl ?_
          simp only [Act.put, List.setIfInBounds_toArray, List.set_cons_zero, List.set_cons_succ]
          refine wpAnyH_yield 18 30 (.bool false) rfl rfl (by kernel_rfl) (by kernel_rfl) (by kernel_rfl) (fun _ _ _ h => h) (by kernel_rfl) (fun W hW => by kernel_rfl) (by assumption) rfl rfl ?_
          simp only [Act.put, List.setIfInBounds_toArray, List.set_cons_zero, List.set_cons_succ]
          refine wpAnyH_yield 19 31 (.bool false) rfl rfl (by kernel_rfl) (by kernel_rfl) (by kernel_rfl) (fun _ _ _ h => h) (by kernel_rfl) (fun W hW => by kernel_rfl) (by assumption) rfl rfl ?_
          simp only [Act.put, List.setIfInBounds_toArray, List.set_cons_zero, List.set_cons_succ]
          refine wpAnyH_done (by kernel_rfl) ?_ _
          have H3 := hide h5
          clear hT0 T5 h5 C1
          go_wp2_with fail
          go_roundw
          case rel => exact ⟨1, by go_num, by omega, Y1.out rfl (fun k hk => by omega), HT1.out.tr H3.out⟩
          case measure => simp [intOf]; omega
        | succ k =>
          have K1 : Hid (∀ W, Calm w W → W.cell? ⟨b, off + k * 9 + 1, none⟩ = some (.int .i64 (L.getD k wn0).b)) := hide (KY.out k (Nat.lt_succ_self k))
          have M1 : Hid (x.a < (L.getD k wn0).b → false = ap) := hide fun h => N2.out k rfl rfl h
          have M2 : Hid ((L.getD k wn0).b ≤ x.a → ∀ j, j < k + 1 + 1 → stepOk L j) := hide fun h => Y1.out rfl (fun k' hk => by have e : k = k' := (by omega); subst e; exact h)
          clear N1 N2 Y1 KY
          generalize (L.getD k wn0).b = y at *
          have hki : (k : Int) < (n : Int) := by omega
          have hks : IntKind.i64.wrap (k : Int) = (k : Int) := by rw [IntKind.wrap_i64]; omega
          generalize hd : decide (x.a < y) = dd at *
          refine wpAnyH_yield 2 14 (.bool false) rfl rfl (by kernel_rfl) (by kernel_rfl) (by kernel_rfl) (fun _ _ _ h => h) (by kernel_rfl) (fun W hW => by kernel_rfl) (by assumption) rfl rfl ?_
          simp only [Act.put, List.setIfInBounds_toArray, List.set_cons_zero, List.set_cons_succ]
          refine wpAnyH_yield 3 15 (.bool false) rfl rfl (by kernel_rfl) (by kernel_rfl) (by kernel_rfl) (fun _ _ _ h => h) (by kernel_rfl) (fun W hW => by kernel_rfl) (by assumption) rfl rfl ?_
          simp only [Act.put, List.setIfInBounds_toArray, List.set_cons_zero, List.set_cons_succ]
          refine wpAnyH_yield 4 16 (.int .i64 ((k + 1 : Nat) : Int)) rfl rfl (by kernel_rfl) (by kernel_rfl) (by kernel_rfl) (fun _ _ _ h => h) (by kernel_rfl) (fun W hW => by kernel_rfl) (by assumption) rfl rfl ?_
          simp only [Act.put, List.setIfInBounds_toArray, List.set_cons_zero, List.set_cons_succ]
          refine wpAnyH_yield 5 17 (.bool true) rfl rfl (by kernel_rfl) (by kernel_rfl) (by kernel_rfl) (fun _ _ _ h => h) (by kernel_rfl) (fun W hW => by go_simp) (by assumption) rfl rfl ?_
          simp only [Act.put, List.setIfInBounds_toArray, List.set_cons_zero, List.set_cons_succ]
          refine wpAnyH_yield 6 18 (.bool true) rfl rfl (by kernel_rfl) (by kernel_rfl) (by kernel_rfl) (fun _ _ _ h => h) (by kernel_rfl) (fun W hW => by kernel_rfl) (by assumption) rfl rfl ?_
          simp only [Act.put, List.setIfInBounds_toArray, List.set_cons_zero, List.set_cons_succ]
          refine wpAnyH_yield 7 19 (.slice (some ⟨b, off, none⟩) n cap) rfl rfl (by kernel_rfl) (by kernel_rfl) (by kernel_rfl) (fun _ _ _ h => h) (by kernel_rfl) (fun W hW => by kernel_rfl) (by assumption) rfl rfl ?_
          simp only [Act.put, List.setIfInBounds_toArray, List.set_cons_zero, List.set_cons_succ]
          refine wpAnyH_yield 8 20 (.int .i64 ((k + 1 : Nat) : Int)) rfl rfl (by kernel_rfl) (by kernel_rfl) (by kernel_rfl) (fun _ _ _ h => h) (by kernel_rfl) (fun W hW => by kernel_rfl) (by assumption) rfl rfl ?_
          simp only [Act.put, List.setIfInBounds_toArray, List.set_cons_zero, List.set_cons_succ]
          refine wpAnyH_yield 9 21 (.int .i64 (k : Int)) rfl rfl (by kernel_rfl) (by kernel_rfl) (by kernel_rfl) (fun _ _ _ h => h) (by kernel_rfl) (fun W hW => by go_simp) (by assumption) rfl rfl ?_
          simp only [Act.put, List.setIfInBounds_toArray, List.set_cons_zero, List.set_cons_succ]
          refine wpAnyH_yield 10 22 (.pointer (some ⟨b, off + k * 9, none⟩)) rfl rfl (by kernel_rfl) (by kernel_rfl) (by kernel_rfl) (fun _ _ _ h => h) (by kernel_rfl) (fun W hW => by go_simp) (by assumption) rfl rfl ?_
          simp only [Act.put, List.setIfInBounds_toArray, List.set_cons_zero, List.set_cons_succ]
          refine wpAnyH_yield 11 23 (.pointer (some ⟨b, off + k * 9, none⟩)) rfl rfl (by kernel_rfl) (by kernel_rfl) (by kernel_rfl) (fun _ _ _ h => h) (by kernel_rfl) (fun W hW => by go_simp) (by assumption) rfl rfl ?_
          simp only [Act.put, List.setIfInBounds_toArray, List.set_cons_zero, List.set_cons_succ]
          refine wpAnyH_yield 12 24 (.pointer (some ⟨b, off + k * 9 + 1, none⟩)) rfl rfl (by kernel_rfl) (by kernel_rfl) (by kernel_rfl) (fun _ _ _ h => h) (by kernel_rfl) (fun W hW => by go_simp) (by assumption) rfl rfl ?_
          simp only [Act.put, List.setIfInBounds_toArray, List.set_cons_zero, List.set_cons_succ]
          refine wpAnyH_yield 13 25 (.int .i64 y) rfl rfl (by kernel_rfl) (by kernel_rfl) (by kernel_rfl) (fun _ _ _ h => h) (by kernel_rfl) (fun W hW => by have c1 := K1.out W (HT1.out.tr hW); go_simp) (by assumption) rfl rfl ?_
          simp only [Act.put, List.setIfInBounds_toArray, List.set_cons_zero, List.set_cons_succ]
          refine wpAnyH_yield 14 26 (.pointer (some ⟨D, 0, none⟩)) rfl rfl (by kernel_rfl) (by kernel_rfl) (by kernel_rfl) (fun _ _ _ h => h) (by kernel_rfl) (fun W hW => by go_simp) (by assumption) rfl rfl ?_
          simp only [Act.put, List.setIfInBounds_toArray, List.set_cons_zero, List.set_cons_succ]
          refine wpAnyH_yield 15 27 (.pointer (some ⟨D, 0, none⟩)) rfl rfl (by kernel_rfl) (by kernel_rfl) (by kernel_rfl) (fun _ _ _ h => h) (by kernel_rfl) (fun W hW => by go_simp) (by assumption) rfl rfl ?_
          simp only [Act.put, List.setIfInBounds_toArray, List.set_cons_zero, List.set_cons_succ]
          refine wpAnyH_yield 16 28 (.int .i64 x.a) rfl rfl (by kernel_rfl) (by kernel_rfl) (by kernel_rfl) (fun _ _ _ h => h) (by kernel_rfl) (fun W hW => by obtain ⟨⟨c0, c1, c2⟩, -⟩ := wn_cells (hW.at HD.out); go_simp) (by assumption) rfl rfl ?_
          simp only [Act.put, List.setIfInBounds_toArray, List.set_cons_zero, List.set_cons_succ]
          refine wpAnyH_yield 17 29 (.bool dd) rfl rfl (by kernel_rfl) (by kernel_rfl) (by kernel_rfl) (fun _ _ _ h => h) (by kernel_rfl) (fun W hW => by go_simp) (by assumption) rfl rfl ?_
          simp only [Act.put, List.setIfInBounds_toArray, List.set_cons_zero, List.set_cons_succ]
          refine wpAnyH_yield 18 30 (.bool dd) rfl rfl (by kernel_rfl) (by kernel_rfl) (by kernel_rfl) (fun _ _ _ h => h) (by kernel_rfl) (fun W hW => by kernel_rfl) (by assumption) rfl rfl ?_
          simp only [Act.put, List.setIfInBounds_toArray, List.set_cons_zero, List.set_cons_succ]
          refine wpAnyH_yield 19 31 (.bool dd) rfl rfl (by kernel_rfl) (by kernel_rfl) (by kernel_rfl) (fun _ _ _ h => h) (by kernel_rfl) (fun W hW => by kernel_rfl) (by assumption) rfl rfl ?_
          simp only [Act.put, List.setIfInBounds_toArray, List.set_cons_zero, List.set_cons_succ]
          refine wpAnyH_done (by kernel_rfl) ?_ _
          have H3 := hide h5
          have HD1 := hide hd
          clear hT0 T5 h5 C1 hd
          cases dd with
          | true =>
            go_wp2_with fail
            go_ret
            exact ⟨by rw [← M1.out (of_decide_eq_true HD1.out)]; rfl, HT1.out.tr H3.out⟩
          | false =>
            go_wp2_with fail
            go_roundw
            case rel => exact ⟨k + 1 + 1, by go_num, by omega, M2.out (by have := of_decide_eq_false HD1.out; omega), HT1.out.tr H3.out⟩
            case measure => simp [intOf]; omega
    · have e : i = n := by omega
      subst e
      have hap : true = ap := (HY.out hall).symm
      have HT := hide T0
      clear T0 hall HA HY HN HS
      go_wp2_with fail
      go_ret
      exact ⟨by rw [← hap]; rfl, HT.out⟩

end Go.Proofs.YtbhofihikimgeaaRR
