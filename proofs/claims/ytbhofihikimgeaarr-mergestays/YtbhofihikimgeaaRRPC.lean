/- The program's Touch: two searches. -/
import Derived.Test.YtbhofihikimgeaaRRPB
import Derived.Test.YtbhofihikimgeaaRRMC
import Derived.Test.YtbhofihikimgeaaRRMX
namespace Go.Proofs.YtbhofihikimgeaaRR
open Go.RowKit

theorem split_at {A M B : List Wn} {L : List Wn} (e : L = A ++ (M ++ B)) (k : Nat) (hk : k < L.length) : (k < A.length ∧ L.getD k wn0 ∈ A) ∨ (A.length ≤ k ∧ k < A.length + M.length ∧ L.getD k wn0 ∈ M) ∨ (A.length + M.length ≤ k ∧ L.getD k wn0 ∈ B) := by
  subst e
  rw [List.getD_eq_getElem?_getD, List.getElem?_eq_getElem hk, Option.getD_some]
  by_cases h1 : k < A.length
  · refine .inl ⟨h1, ?_⟩
    rw [List.getElem_append_left h1]; exact List.getElem_mem h1
  · by_cases h2 : k < A.length + M.length
    · refine .inr (.inl ⟨by omega, h2, ?_⟩)
      rw [List.getElem_append_right (by omega), List.getElem_append_left (by omega)]
      exact List.getElem_mem _
    · refine .inr (.inr ⟨by omega, ?_⟩)
      rw [List.getElem_append_right (by omega), List.getElem_append_right (by omega)]
      exact List.getElem_mem _

theorem thr_any {L : List Wn} {s : Sp} (h : Rise (L.map Wn.sp)) (hs : s.a < s.b) (k : Nat) (hk : k < L.length) :
    decide (s.a < (L.getD k wn0).b) = decide (fromR L s ≤ k) ∧ decide (s.b ≤ (L.getD k wn0).a) = decide (fromR L s + ovR L s ≤ k) := by
  have ef : fromR L s = (L.filter (aheadW s)).length := rfl
  have eo : ovR L s = (L.filter (onW s)).length := rfl
  rw [ef, eo]
  have hm : ∀ y ∈ L, y.a < y.b := fun y hy => h.2 y.sp (List.mem_map.2 ⟨y, hy, rfl⟩)
  rcases split_at (split3 L s h hs) k hk with ⟨h1, h2⟩ | ⟨h1, h2, h3⟩ | ⟨h1, h2⟩
  · obtain ⟨hy, hf⟩ := List.mem_filter.1 h2
    have := hm _ hy
    unfold aheadW at hf
    simp only [Bool.and_eq_true, decide_eq_true_eq] at hf
    rw [decide_eq_false (show ¬ s.a < (L.getD k wn0).b by omega), decide_eq_false (show ¬ s.b ≤ (L.getD k wn0).a by omega), decide_eq_false (by omega), decide_eq_false (by omega)]
    exact ⟨rfl, rfl⟩
  · obtain ⟨hy, hf⟩ := List.mem_filter.1 h3
    obtain ⟨o1, o2, o3, o4⟩ := (over_iff _ _).1 hf
    simp only at o1 o2 o3 o4
    rw [decide_eq_true (show s.a < (L.getD k wn0).b by omega), decide_eq_false (show ¬ s.b ≤ (L.getD k wn0).a by omega), decide_eq_true (by omega), decide_eq_false (by omega)]
    exact ⟨rfl, rfl⟩
  · obtain ⟨hy, hf⟩ := List.mem_filter.1 h2
    have hl := hm _ hy
    unfold behindW at hf
    simp only [Bool.and_eq_true, Bool.not_eq_true', decide_eq_false_iff_not] at hf
    have hb : s.b ≤ (L.getD k wn0).a := Int.not_lt.1 fun hlt => by
      have := (over_iff (L.getD k wn0).sp s).2 ⟨hl, hs, hlt, by simp only; omega⟩
      rw [hf.1] at this
      cases this
    rw [decide_eq_true (show s.a < (L.getD k wn0).b by omega), decide_eq_true hb, decide_eq_true (by omega), decide_eq_true (by omega)]
    exact ⟨rfl, rfl⟩

set_option maxRecDepth 100000 in
set_option maxHeartbeats 1000000 in
theorem touch1_any (A D : Nat) (ao : Option Addr) (cap : Nat) (L : List Wn) (s : Sp) (k : Nat) (w : World) (hk : k < L.length) (hA : w.heap[A]? = some (.cells #[.slice ao L.length cap] 22 (0, 0))) (hD : w.heap[D]? = some (.cells (spc s) 24 (0, 0))) (hm : encW.Mem w ao L) :
    Calls Try.prog 18 #[.int .i64 (k : Nat), .pointer (some ⟨A, 0, none⟩), .pointer (some ⟨D, 0, none⟩)] w fun e w' => e = .returned (.bool (decide (s.a < (L.getD k wn0).b))) ∧ Calm w w' := by
  obtain ⟨b, off, rfl, -⟩ := wn_at hm k hk
  have KY : Hid (∀ W, Calm w W → W.cell? ⟨b, off + k * 9, none⟩ = some (.int .i64 (L.getD k wn0).a) ∧ W.cell? ⟨b, off + k * 9 + 1, none⟩ = some (.int .i64 (L.getD k wn0).b)) := hide fun W hW => by
    obtain ⟨b', off', e, ⟨c0, c1, -⟩, -⟩ := wn_at (Rc.Mem.calm hm hW) k hk
    injection e with e
    injection e with e1 e2
    subst e1 e2
    exact ⟨c0, c1⟩
  have HA := hide hA
  have HD := hide hD
  generalize L.getD k wn0 = x at *
  generalize hN : L.length = n at *
  have hki : (k : Int) < (n : Int) := by omega
  clear hm hA hD hN
  generalize hd : decide (s.a < x.b) = dd at *
  go_enter Try.func18, Try.ntmps18
  go_wp2_with fail
  refine wp_region_held (S := Calm w) (by kernel_rfl) ?_
  have hT0 : Calm w { w with drawn := w.drawn + 1 } := (Touch.refl (fun _ => False) w).drew
  refine wpAnyH_yield 0 5 (.slice (some ⟨b, off, none⟩) n cap) rfl rfl (by kernel_rfl) (by kernel_rfl) (by kernel_rfl) (fun _ _ _ h => h) (by kernel_rfl) (fun W hW => by have c0 := one_cell (hW.at HA.out); go_simp) (by assumption) rfl rfl ?_
  simp only [Act.put, List.setIfInBounds_toArray, List.set_cons_zero, List.set_cons_succ]
  refine wpAnyH_yield 1 6 (.int .i64 (k : Int)) rfl rfl (by kernel_rfl) (by kernel_rfl) (by kernel_rfl) (fun _ _ _ h => h) (by kernel_rfl) (fun W hW => by kernel_rfl) (by assumption) rfl rfl ?_
  simp only [Act.put, List.setIfInBounds_toArray, List.set_cons_zero, List.set_cons_succ]
  refine wpAnyH_yield 2 7 (.pointer (some ⟨b, off + k * 9, none⟩)) rfl rfl (by kernel_rfl) (by kernel_rfl) (by kernel_rfl) (fun _ _ _ h => h) (by kernel_rfl) (fun W hW => by go_simp) (by assumption) rfl rfl ?_
  simp only [Act.put, List.setIfInBounds_toArray, List.set_cons_zero, List.set_cons_succ]
  refine wpAnyH_yield 3 8 (.pointer (some ⟨b, off + k * 9, none⟩)) rfl rfl (by kernel_rfl) (by kernel_rfl) (by kernel_rfl) (fun _ _ _ h => h) (by kernel_rfl) (fun W hW => by go_simp) (by assumption) rfl rfl ?_
  simp only [Act.put, List.setIfInBounds_toArray, List.set_cons_zero, List.set_cons_succ]
  refine wpAnyH_yield 4 9 (.pointer (some ⟨b, off + k * 9 + 1, none⟩)) rfl rfl (by kernel_rfl) (by kernel_rfl) (by kernel_rfl) (fun _ _ _ h => h) (by kernel_rfl) (fun W hW => by go_simp) (by assumption) rfl rfl ?_
  simp only [Act.put, List.setIfInBounds_toArray, List.set_cons_zero, List.set_cons_succ]
  refine wpAnyH_yield 5 10 (.int .i64 (x.b)) rfl rfl (by kernel_rfl) (by kernel_rfl) (by kernel_rfl) (fun _ _ _ h => h) (by kernel_rfl) (fun W hW => by obtain ⟨c0, c1⟩ := KY.out W hW; go_simp) (by assumption) rfl rfl ?_
  simp only [Act.put, List.setIfInBounds_toArray, List.set_cons_zero, List.set_cons_succ]
  refine wpAnyH_yield 6 11 (.pointer (some ⟨D, 0 , none⟩)) rfl rfl (by kernel_rfl) (by kernel_rfl) (by kernel_rfl) (fun _ _ _ h => h) (by kernel_rfl) (fun W hW => by go_simp) (by assumption) rfl rfl ?_
  simp only [Act.put, List.setIfInBounds_toArray, List.set_cons_zero, List.set_cons_succ]
  refine wpAnyH_yield 7 12 (.int .i64 (s.a)) rfl rfl (by kernel_rfl) (by kernel_rfl) (by kernel_rfl) (fun _ _ _ h => h) (by kernel_rfl) (fun W hW => by obtain ⟨c0, c1⟩ := sp_cells (hW.at HD.out); go_simp) (by assumption) rfl rfl ?_
  simp only [Act.put, List.setIfInBounds_toArray, List.set_cons_zero, List.set_cons_succ]
  refine wpAnyH_yield 8 13 (.bool dd) rfl rfl (by kernel_rfl) (by kernel_rfl) (by kernel_rfl) (fun _ _ _ h => h) (by kernel_rfl) (fun W hW => by go_simp) (by assumption) rfl rfl ?_
  simp only [Act.put, List.setIfInBounds_toArray, List.set_cons_zero, List.set_cons_succ]
  refine wpAnyH_yield 9 4 (.bool dd) rfl rfl (by kernel_rfl) (by kernel_rfl) (by kernel_rfl) (fun _ _ _ h => h) (by kernel_rfl) (fun W hW => by kernel_rfl) (by assumption) rfl rfl ?_
  simp only [Act.put, List.setIfInBounds_toArray, List.set_cons_zero, List.set_cons_succ]
  refine wpAnyH_done (by kernel_rfl) ?_ _
  have HT := hide hT0
  clear hT0 hd
  go_wp2_with fail
  go_ret
  exact ⟨rfl, HT.out⟩

set_option maxRecDepth 100000 in
set_option maxHeartbeats 1000000 in
theorem search1_any (n K A D : Nat) (w : World) (hK : K ≤ n) (hn : n ≤ 1000000)
    (HF : ∀ h, h < n → ∀ W, Calm w W → Hid (Calls Try.prog 18 #[.int .i64 (h : Nat), .pointer (some ⟨A, 0, none⟩), .pointer (some ⟨D, 0, none⟩)] W fun e w' => e = .returned (.bool (decide (K ≤ h))) ∧ Calm W w')) :
    Calls Try.prog 17 #[.int .i64 (n : Nat), .func (.func 18) #[] #[.pointer (some ⟨A, 0, none⟩), .pointer (some ⟨D, 0, none⟩)]] w fun e w' => e = .returned (.int .i64 (K : Nat)) ∧ Calm w w' := by
  go_enter Try.func17, Try.ntmps17
  go_wp2_with fail
  go_loopw [5, 6] (fun i j wr => ∃ p q : Nat, i = .int .i64 p ∧ j = .int .i64 q ∧ p ≤ K ∧ K ≤ q ∧ q ≤ n ∧ Calm w wr) (fun i j _ => (intOf j).toNat - (intOf i).toNat)
  case atStart => exact ⟨0, n, rfl, rfl, Nat.zero_le _, hK, Nat.le_refl _, Touch.refl _ _⟩
  case round =>
    obtain ⟨p, q, rfl, rfl, hp, hq, hqn, T0⟩ := hrel
    by_cases hlt : p < q
    · have e1 : IntKind.u64.wrap ((p : Int) + (q : Int)) = (p : Int) + (q : Int) := by rw [IntKind.wrap_u64]; omega
      obtain ⟨h, hh⟩ : ∃ h : Nat, h = (p + q) / 2 := ⟨_, rfl⟩
      have e2 : ((p : Int) + (q : Int)) / 2 = (h : Int) := by omega
      have C1 := HF h (by omega) wr T0
      have HT := hide T0
      have HH := hide hh
      clear T0 HF hh
      generalize hd : decide (K ≤ h) = dd at *
      have HDD := hide hd
      clear hd
      go_wp2_with fail
      refine C1.out.mono ?_
      rintro e w2 ⟨rfl, T2⟩
      have H2 := hide (HT.out.tr T2)
      clear T2
      cases dd with
      | true =>
        go_wp2_with fail
        go_roundw
        case rel => exact ⟨p, h, rfl, rfl, hp, of_decide_eq_true HDD.out, by have := HH.out; omega, H2.out⟩
        case measure => simp [intOf]; have := HH.out; omega
      | false =>
        have hKh := of_decide_eq_false HDD.out
        go_wp2_with fail
        go_roundw
        case rel => exact ⟨h + 1, q, by go_num, rfl, by omega, hq, hqn, H2.out⟩
        case measure => simp [intOf]; have := HH.out; omega
    · have e : p = K := by omega
      subst e
      have HT := hide T0
      clear T0 HF
      go_wp2_with fail
      go_ret
      exact ⟨rfl, HT.out⟩

set_option maxRecDepth 100000 in
set_option maxHeartbeats 1000000 in
theorem touch2_any (A D : Nat) (ao : Option Addr) (cap : Nat) (L : List Wn) (s : Sp) (k : Nat) (w : World) (hk : k < L.length) (hA : w.heap[A]? = some (.cells #[.slice ao L.length cap] 22 (0, 0))) (hD : w.heap[D]? = some (.cells (spc s) 24 (0, 0))) (hm : encW.Mem w ao L) :
    Calls Try.prog 19 #[.int .i64 (k : Nat), .pointer (some ⟨A, 0, none⟩), .pointer (some ⟨D, 0, none⟩)] w fun e w' => e = .returned (.bool (decide (s.b ≤ (L.getD k wn0).a))) ∧ Calm w w' := by
  obtain ⟨b, off, rfl, -⟩ := wn_at hm k hk
  have KY : Hid (∀ W, Calm w W → W.cell? ⟨b, off + k * 9, none⟩ = some (.int .i64 (L.getD k wn0).a) ∧ W.cell? ⟨b, off + k * 9 + 1, none⟩ = some (.int .i64 (L.getD k wn0).b)) := hide fun W hW => by
    obtain ⟨b', off', e, ⟨c0, c1, -⟩, -⟩ := wn_at (Rc.Mem.calm hm hW) k hk
    injection e with e
    injection e with e1 e2
    subst e1 e2
    exact ⟨c0, c1⟩
  have HA := hide hA
  have HD := hide hD
  generalize L.getD k wn0 = x at *
  generalize hN : L.length = n at *
  have hki : (k : Int) < (n : Int) := by omega
  clear hm hA hD hN
  generalize hd : decide (s.b ≤ x.a) = dd at *
  go_enter Try.func19, Try.ntmps19
  go_wp2_with fail
  refine wp_region_held (S := Calm w) (by kernel_rfl) ?_
  have hT0 : Calm w { w with drawn := w.drawn + 1 } := (Touch.refl (fun _ => False) w).drew
  refine wpAnyH_yield 0 5 (.slice (some ⟨b, off, none⟩) n cap) rfl rfl (by kernel_rfl) (by kernel_rfl) (by kernel_rfl) (fun _ _ _ h => h) (by kernel_rfl) (fun W hW => by have c0 := one_cell (hW.at HA.out); go_simp) (by assumption) rfl rfl ?_
  simp only [Act.put, List.setIfInBounds_toArray, List.set_cons_zero, List.set_cons_succ]
  refine wpAnyH_yield 1 6 (.int .i64 (k : Int)) rfl rfl (by kernel_rfl) (by kernel_rfl) (by kernel_rfl) (fun _ _ _ h => h) (by kernel_rfl) (fun W hW => by kernel_rfl) (by assumption) rfl rfl ?_
  simp only [Act.put, List.setIfInBounds_toArray, List.set_cons_zero, List.set_cons_succ]
  refine wpAnyH_yield 2 7 (.pointer (some ⟨b, off + k * 9, none⟩)) rfl rfl (by kernel_rfl) (by kernel_rfl) (by kernel_rfl) (fun _ _ _ h => h) (by kernel_rfl) (fun W hW => by go_simp) (by assumption) rfl rfl ?_
  simp only [Act.put, List.setIfInBounds_toArray, List.set_cons_zero, List.set_cons_succ]
  refine wpAnyH_yield 3 8 (.pointer (some ⟨b, off + k * 9, none⟩)) rfl rfl (by kernel_rfl) (by kernel_rfl) (by kernel_rfl) (fun _ _ _ h => h) (by kernel_rfl) (fun W hW => by go_simp) (by assumption) rfl rfl ?_
  simp only [Act.put, List.setIfInBounds_toArray, List.set_cons_zero, List.set_cons_succ]
  refine wpAnyH_yield 4 9 (.pointer (some ⟨b, off + k * 9 , none⟩)) rfl rfl (by kernel_rfl) (by kernel_rfl) (by kernel_rfl) (fun _ _ _ h => h) (by kernel_rfl) (fun W hW => by go_simp) (by assumption) rfl rfl ?_
  simp only [Act.put, List.setIfInBounds_toArray, List.set_cons_zero, List.set_cons_succ]
  refine wpAnyH_yield 5 10 (.int .i64 (x.a)) rfl rfl (by kernel_rfl) (by kernel_rfl) (by kernel_rfl) (fun _ _ _ h => h) (by kernel_rfl) (fun W hW => by obtain ⟨c0, c1⟩ := KY.out W hW; go_simp) (by assumption) rfl rfl ?_
  simp only [Act.put, List.setIfInBounds_toArray, List.set_cons_zero, List.set_cons_succ]
  refine wpAnyH_yield 6 11 (.pointer (some ⟨D, 0 + 1, none⟩)) rfl rfl (by kernel_rfl) (by kernel_rfl) (by kernel_rfl) (fun _ _ _ h => h) (by kernel_rfl) (fun W hW => by go_simp) (by assumption) rfl rfl ?_
  simp only [Act.put, List.setIfInBounds_toArray, List.set_cons_zero, List.set_cons_succ]
  refine wpAnyH_yield 7 12 (.int .i64 (s.b)) rfl rfl (by kernel_rfl) (by kernel_rfl) (by kernel_rfl) (fun _ _ _ h => h) (by kernel_rfl) (fun W hW => by obtain ⟨c0, c1⟩ := sp_cells (hW.at HD.out); go_simp) (by assumption) rfl rfl ?_
  simp only [Act.put, List.setIfInBounds_toArray, List.set_cons_zero, List.set_cons_succ]
  refine wpAnyH_yield 8 13 (.bool dd) rfl rfl (by kernel_rfl) (by kernel_rfl) (by kernel_rfl) (fun _ _ _ h => h) (by kernel_rfl) (fun W hW => by go_simp) (by assumption) rfl rfl ?_
  simp only [Act.put, List.setIfInBounds_toArray, List.set_cons_zero, List.set_cons_succ]
  refine wpAnyH_yield 9 4 (.bool dd) rfl rfl (by kernel_rfl) (by kernel_rfl) (by kernel_rfl) (fun _ _ _ h => h) (by kernel_rfl) (fun W hW => by kernel_rfl) (by assumption) rfl rfl ?_
  simp only [Act.put, List.setIfInBounds_toArray, List.set_cons_zero, List.set_cons_succ]
  refine wpAnyH_done (by kernel_rfl) ?_ _
  have HT := hide hT0
  clear hT0 hd
  go_wp2_with fail
  go_ret
  exact ⟨rfl, HT.out⟩

set_option maxRecDepth 100000 in
set_option maxHeartbeats 1000000 in
theorem search2_any (n K A D : Nat) (w : World) (hK : K ≤ n) (hn : n ≤ 1000000)
    (HF : ∀ h, h < n → ∀ W, Calm w W → Hid (Calls Try.prog 19 #[.int .i64 (h : Nat), .pointer (some ⟨A, 0, none⟩), .pointer (some ⟨D, 0, none⟩)] W fun e w' => e = .returned (.bool (decide (K ≤ h))) ∧ Calm W w')) :
    Calls Try.prog 17 #[.int .i64 (n : Nat), .func (.func 19) #[] #[.pointer (some ⟨A, 0, none⟩), .pointer (some ⟨D, 0, none⟩)]] w fun e w' => e = .returned (.int .i64 (K : Nat)) ∧ Calm w w' := by
  go_enter Try.func17, Try.ntmps17
  go_wp2_with fail
  go_loopw [5, 6] (fun i j wr => ∃ p q : Nat, i = .int .i64 p ∧ j = .int .i64 q ∧ p ≤ K ∧ K ≤ q ∧ q ≤ n ∧ Calm w wr) (fun i j _ => (intOf j).toNat - (intOf i).toNat)
  case atStart => exact ⟨0, n, rfl, rfl, Nat.zero_le _, hK, Nat.le_refl _, Touch.refl _ _⟩
  case round =>
    obtain ⟨p, q, rfl, rfl, hp, hq, hqn, T0⟩ := hrel
    by_cases hlt : p < q
    · have e1 : IntKind.u64.wrap ((p : Int) + (q : Int)) = (p : Int) + (q : Int) := by rw [IntKind.wrap_u64]; omega
      obtain ⟨h, hh⟩ : ∃ h : Nat, h = (p + q) / 2 := ⟨_, rfl⟩
      have e2 : ((p : Int) + (q : Int)) / 2 = (h : Int) := by omega
      have C1 := HF h (by omega) wr T0
      have HT := hide T0
      have HH := hide hh
      clear T0 HF hh
      generalize hd : decide (K ≤ h) = dd at *
      have HDD := hide hd
      clear hd
      go_wp2_with fail
      refine C1.out.mono ?_
      rintro e w2 ⟨rfl, T2⟩
      have H2 := hide (HT.out.tr T2)
      clear T2
      cases dd with
      | true =>
        go_wp2_with fail
        go_roundw
        case rel => exact ⟨p, h, rfl, rfl, hp, of_decide_eq_true HDD.out, by have := HH.out; omega, H2.out⟩
        case measure => simp [intOf]; have := HH.out; omega
      | false =>
        have hKh := of_decide_eq_false HDD.out
        go_wp2_with fail
        go_roundw
        case rel => exact ⟨h + 1, q, by go_num, rfl, by omega, hq, hqn, H2.out⟩
        case measure => simp [intOf]; have := HH.out; omega
    · have e : p = K := by omega
      subst e
      have HT := hide T0
      clear T0 HF
      go_wp2_with fail
      go_ret
      exact ⟨rfl, HT.out⟩

set_option maxRecDepth 100000 in
set_option maxHeartbeats 2000000 in
theorem touch_any (ao : Option Addr) (cap : Nat) (L : List Wn) (s : Sp) (w : World) (hm : encW.Mem w ao L) (hn : L.length ≤ 1000000) :
    Calls Try.prog 7 #[.slice ao L.length cap, spv s] w fun e w' => e = .returned (.tuple #[.int .i64 (tch1 L s), .int .i64 (tch2 L s), .int .i64 (tch3 L s)]) ∧ Calm w w' := by
  have CA := fun w' (h : Calm w w') => hide (apart_any ao cap L w' (Rc.Mem.calm hm h) (by omega))
  have CS := fun w => hide (isSpan_any s w)
  have hfo := fromR_ovR L s
  have A0 := (al1 w (.cells #[.slice ao L.length cap] 22) (.cells (spc s) 24)).1
  have A1 := (al1 w (.cells #[.slice ao L.length cap] 22) (.cells (spc s) 24)).2
  have T0 : Calm w ((w.alloc (.cells #[.slice ao L.length cap] 22)).alloc (.cells (spc s) 24)) := ((Touch.refl (fun _ => False) w).alloc _).alloc _
  have SE : Hid (apartR L = true → s.a < s.b → ∀ W, Calm ((w.alloc (.cells #[.slice ao L.length cap] 22)).alloc (.cells (spc s) 24)) W →
      (Calls Try.prog 17 #[.int .i64 (L.length : Nat), .func (.func 18) #[] #[.pointer (some ⟨w.heap.size, 0, none⟩), .pointer (some ⟨w.heap.size + 1, 0, none⟩)]] W fun e w' => e = .returned (.int .i64 (fromR L s : Nat)) ∧ Calm W w') ∧
      (Calls Try.prog 17 #[.int .i64 (L.length : Nat), .func (.func 19) #[] #[.pointer (some ⟨w.heap.size, 0, none⟩), .pointer (some ⟨w.heap.size + 1, 0, none⟩)]] W fun e w' => e = .returned (.int .i64 ((fromR L s + ovR L s : Nat) : Int)) ∧ Calm W w')) := hide fun hap hs W hW => by
    have hr := (apart_rise hap).1
    refine ⟨search1_any _ _ _ _ W (fromR_le L s) hn fun h hh V hV => hide ?_, search2_any _ _ _ _ W hfo hn fun h hh V hV => hide ?_⟩
    · have h2 := hW.tr hV
      have := touch1_any w.heap.size (w.heap.size + 1) ao cap L s h V hh (h2.at A0) (h2.at A1) (Rc.Mem.calm hm (T0.tr h2))
      rw [(thr_any hr hs h hh).1] at this
      exact this
    · have h2 := hW.tr hV
      have := touch2_any w.heap.size (w.heap.size + 1) ao cap L s h V hh (h2.at A0) (h2.at A1) (Rc.Mem.calm hm (T0.tr h2))
      rw [(thr_any hr hs h hh).2] at this
      exact this
  unfold tch1 tch2 tch3 badT
  generalize apartR L = ap at *
  generalize hN : L.length = n at *
  have HT0 := hide T0
  have HA0 := hide A0
  have HA1 := hide A1
  clear hN hm T0 A0 A1
  generalize hs : decide (s.a < s.b) = sb at *
  have HS := hide hs
  clear hs
  cases sb with
  | false =>
    clear SE CA HA0 HA1
    have e0 : (ap && false) = false := by cases ap <;> rfl
    rw [e0]
    clear e0
    go_enter Try.func7, Try.ntmps7
    go_wp2_with fail
    refine (CS _).out.mono ?_
    rintro e w1 ⟨rfl, T1⟩
    have HT := hide (HT0.out.tr T1)
    clear T1
    go_wp2_with fail
    go_ret3
    exact ⟨by simp, HT.out⟩
  | true =>
    go_enter Try.func7, Try.ntmps7
    go_wp2_with fail
    refine (CS _).out.mono ?_
    rintro e w1 ⟨rfl, T1⟩
    have c0 := one_cell (T1.at HA0.out)
    have CA1 := CA w1 (HT0.out.tr T1)
    have HT := hide T1
    clear T1 CA CS
    go_wp2_with fail
    refine CA1.out.mono ?_
    rintro e w2 ⟨rfl, T2⟩
    have HU := hide (HT.out.tr T2)
    have c1 := one_cell (HU.out.at HA0.out)
    clear T2 c0 HT CA1
    cases ap with
    | false =>
      clear SE
      go_wp2_with fail
      go_ret3
      exact ⟨rfl, HT0.out.tr HU.out⟩
    | true =>
      have S1 := hide (SE.out rfl (of_decide_eq_true HS.out) w2 HU.out).1
      have S2 : Hid (∀ W, Calm w2 W → _) := hide fun W hW => (SE.out rfl (of_decide_eq_true HS.out) W (HU.out.tr hW)).2
      clear SE
      generalize hf : fromR L s = f at *
      generalize hc : ovR L s = c at *
      have HF := hide hf
      have HC := hide hc
      clear hf hc
      go_wp2_with fail
      refine S1.out.mono ?_
      rintro e w3 ⟨rfl, T3⟩
      have c2 := one_cell (T3.at (HU.out.at HA0.out))
      have S3 := hide (S2.out w3 T3)
      have H3 := hide (HU.out.tr T3)
      clear T3 S1 S2 c1
      go_wp2_with fail
      refine S3.out.mono ?_
      rintro e w4 ⟨rfl, T4⟩
      have H4 := hide (H3.out.tr T4)
      clear T4 S3
      go_wp2_with fail
      go_ret3
      refine ⟨?_, HT0.out.tr H4.out⟩
      rw [HF.out, HC.out]
      simp

end Go.Proofs.YtbhofihikimgeaaRR
