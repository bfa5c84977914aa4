/- Items (the program's isKey, isTime). Items (the program's mayBe, Item). -/
import Derived.Test.YtapnjofplilefaaGreatE1
import Derived.Test.YtapnjofplilefaaGreatC1
import Derived.Laws.StructEq
namespace Go.Proofs.YtapnjofplilefaaGreat
open Go.RowKit

set_option maxRecDepth 100000 in
theorem isKey_any (s : ByteArray) (w : World) : Calls Tryz.prog 62 #[.string s] w fun e w' => e = .returned (.bool (decide (s.size ≤ 256))) ∧ w' = w := by
  have e : decide (((s.size : Nat) : Int) ≤ 256) = decide (s.size ≤ 256) := by
    by_cases h : s.size ≤ 256
    · rw [decide_eq_true h, decide_eq_true (by omega)]
    · rw [decide_eq_false h, decide_eq_false (by omega)]
  have HE := hide e
  clear e
  go_enter Tryz.func62, Tryz.ntmps62
  go_wp2_with fail
  go_ret
  exact ⟨by rw [← HE.out]; rfl, rfl⟩

set_option maxRecDepth 100000 in
theorem isTimeE_any (x : Int) (w : World) : Calls Tryz.prog 63 #[.int .i64 x] w fun e w' => e = .returned (.bool (inB x (-4611686018427387904) 4611686018427387904)) ∧ w' = w := by
  by_cases h : (-4611686018427387904) ≤ x
  · have hf : Hid (inB x (-4611686018427387904) 4611686018427387904 = decide (x ≤ 4611686018427387904)) := hide (by unfold inB; simp [h])
    have hd : decide ((-4611686018427387904) ≤ x) = true := decide_eq_true h
    clear h
    go_enter Tryz.func63, Tryz.ntmps63
    go_wp2_with fail
    go_ret
    exact ⟨by rw [hf.out]; rfl, rfl⟩
  · have hf : Hid (inB x (-4611686018427387904) 4611686018427387904 = false) := hide (by unfold inB; simp [h])
    have hd : decide ((-4611686018427387904) ≤ x) = false := decide_eq_false h
    clear h
    go_enter Tryz.func63, Tryz.ntmps63
    go_wp2_with fail
    go_ret
    exact ⟨by rw [hf.out]; rfl, rfl⟩

end Go.Proofs.YtapnjofplilefaaGreat

namespace Go.Proofs.YtapnjofplilefaaGreat
open Go.RowKit

set_option maxRecDepth 100000 in
set_option maxHeartbeats 1000000 in
theorem mayBe_1 (c : Cf) (x : It) (hk : x.ki = 1) (w : World) : Calls Tryz.prog 51 #[cfv c, itv x] w fun e w' => e = .returned (.bool ((decide (x.ke.size ≤ 256) && timeB x.tm) && x.sr == 0)) ∧ Calm w w' := by
  have CK := fun w => hide (isKey_any x.ke w)
  have CT : ∀ w, Hid (Calls Tryz.prog 63 #[.int .i64 x.tm] w fun e w' => e = .returned (.bool (timeB x.tm)) ∧ w' = w) := fun w => hide (isTimeE_any x.tm w)
  have T0 : Hid (∀ o, Calm w (((w.alloc (.cells (cfc c) 24)).alloc (.cells (itc x) 60)).alloc o)) := hide fun o => (((Touch.refl (fun _ => False) w).alloc _).alloc _).alloc _
  generalize decide (x.ke.size ≤ 256) = K at *
  generalize timeB x.tm = T at *
  by_cases hs : x.sr = 0
  · have ds : (x.sr == 0) = true := by simp [hs]
    rw [ds]
    cases K with
    | true =>
      go_enter Tryz.func51, Tryz.ntmps51
      go_wp2_with fail
      refine (CK _).out.mono ?_
      rintro e w1 ⟨rfl, hw1⟩
      subst hw1
      go_wp2_with fail
      refine (CT _).out.mono ?_
      rintro e w1 ⟨rfl, hw1⟩
      subst hw1
      go_wp2_with fail
      go_ret
      exact ⟨by cases T <;> rfl, T0.out _⟩
    | false =>
      go_enter Tryz.func51, Tryz.ntmps51
      go_wp2_with fail
      refine (CK _).out.mono ?_
      rintro e w1 ⟨rfl, hw1⟩
      subst hw1
      go_wp2_with fail
      go_ret
      exact ⟨by cases T <;> rfl, T0.out _⟩
  · have ds : (x.sr == 0) = false := by simp [hs]
    have HB : Hid (((K && T) && (x.sr == 0)) = false) := hide (by rw [ds, Bool.and_false])
    rw [HB.out]
    go_enter Tryz.func51, Tryz.ntmps51
    go_wp2_with fail
    go_ret
    exact ⟨rfl, T0.out _⟩

set_option maxRecDepth 100000 in
set_option maxHeartbeats 1000000 in
theorem mayBe_2 (c : Cf) (x : It) (hk : x.ki = 2) (w : World) : Calls Tryz.prog 51 #[cfv c, itv x] w fun e w' => e = .returned (.bool ((((decide (0 ≤ x.sr) && decide (x.sr < c.so)) && timeB x.tm) && x.ke.toList == []) && x.va == 0)) ∧ Calm w w' := by
  have CT : ∀ w, Hid (Calls Tryz.prog 63 #[.int .i64 x.tm] w fun e w' => e = .returned (.bool (timeB x.tm)) ∧ w' = w) := fun w => hide (isTimeE_any x.tm w)
  have T0 : Hid (∀ o, Calm w (((w.alloc (.cells (cfc c) 24)).alloc (.cells (itc x) 60)).alloc o)) := hide fun o => (((Touch.refl (fun _ => False) w).alloc _).alloc _).alloc _
  generalize timeB x.tm = T at *
  obtain ⟨R, hR⟩ : ∃ R : Bool, R = ((((decide (0 ≤ x.sr) && decide (x.sr < c.so)) && T) && x.ke.toList == []) && x.va == 0) := ⟨_, rfl⟩
  rw [← hR]
  by_cases hke : x.ke.toList = []
  · have dke : (x.ke.toList == []) = true := by simp [hke]
    by_cases hva : x.va = 0
    · have dva : (x.va == 0) = true := by simp [hva]
      by_cases h0 : 0 ≤ x.sr
      · have d0 : decide (0 ≤ x.sr) = true := decide_eq_true h0
        by_cases hl : x.sr < c.so
        · have dl : decide (x.sr < c.so) = true := decide_eq_true hl
          have HR : Hid (R = T) := hide (by rw [hR, d0, dl, dke, dva]; cases T <;> rfl)
          clear hR
          go_enter Tryz.func51, Tryz.ntmps51
          go_wp2_with fail
          refine (CT _).out.mono ?_
          rintro e w1 ⟨rfl, hw1⟩
          subst hw1
          go_wp2_with fail
          go_ret
          exact ⟨by rw [HR.out]; cases T <;> rfl, T0.out _⟩
        · have dl : decide (x.sr < c.so) = false := decide_eq_false hl
          have HR : Hid (R = false) := hide (by rw [hR, d0, dl]; rfl)
          clear hR
          go_enter Tryz.func51, Tryz.ntmps51
          go_wp2_with fail
          go_ret
          exact ⟨by rw [HR.out]; rfl, T0.out _⟩
      · have d0 : decide (0 ≤ x.sr) = false := decide_eq_false h0
        have HR : Hid (R = false) := hide (by rw [hR, d0]; rfl)
        clear hR
        go_enter Tryz.func51, Tryz.ntmps51
        go_wp2_with fail
        go_ret
        exact ⟨by rw [HR.out]; rfl, T0.out _⟩
    · have dva : (x.va == 0) = false := by simp [hva]
      have HR : Hid (R = false) := hide (by rw [hR, dva, Bool.and_false])
      clear hR
      go_enter Tryz.func51, Tryz.ntmps51
      go_wp2_with fail
      go_ret
      exact ⟨by rw [HR.out]; rfl, T0.out _⟩
  · have dke : (x.ke.toList == []) = false := by simp [hke]
    have HR : Hid (R = false) := hide (by rw [hR, dke, Bool.and_false, Bool.false_and])
    clear hR
    go_enter Tryz.func51, Tryz.ntmps51
    go_wp2_with fail
    go_ret
    exact ⟨by rw [HR.out]; rfl, T0.out _⟩

set_option maxRecDepth 100000 in
set_option maxHeartbeats 1000000 in
theorem mayBe_3 (c : Cf) (x : It) (hk : x.ki = 3) (w : World) : Calls Tryz.prog 51 #[cfv c, itv x] w fun e w' => e = .returned (.bool (x.ke.toList == [] && (x.tm == 0 && (x.va == 0 && x.sr == 0)))) ∧ Calm w w' := by
  have T0 : Hid (Calm w ((w.alloc (.cells (cfc c) 24)).alloc (.cells (itc x) 60))) := hide (((Touch.refl (fun _ => False) w).alloc _).alloc _)
  obtain ⟨R, hR⟩ : ∃ R : Bool, R = (x.ke.toList == [] && (x.tm == 0 && (x.va == 0 && x.sr == 0))) := ⟨_, rfl⟩
  have HR := hide hR
  rw [← hR]
  clear hR
  go_enter Tryz.func51, Tryz.ntmps51
  go_wp2_with fail
  all_goals
    go_ret
    refine ⟨?_, T0.out⟩
    have hR := HR.out
    simp_all

set_option maxRecDepth 100000 in
theorem mayBe_o (c : Cf) (x : It) (h1 : x.ki ≠ 1) (h2 : x.ki ≠ 2) (h3 : x.ki ≠ 3) (w : World) : Calls Tryz.prog 51 #[cfv c, itv x] w fun e w' => e = .returned (.bool false) ∧ Calm w w' := by
  have T0 : Hid (Calm w ((w.alloc (.cells (cfc c) 24)).alloc (.cells (itc x) 60))) := hide (((Touch.refl (fun _ => False) w).alloc _).alloc _)
  have d1 : (x.ki == 1) = false := by simp [h1]
  have d2 : (x.ki == 2) = false := by simp [h2]
  have d3 : (x.ki == 3) = false := by simp [h3]
  go_enter Tryz.func51, Tryz.ntmps51
  go_wp2_with fail
  go_ret
  exact ⟨rfl, T0.out⟩

theorem mayBe_any (c : Cf) (x : It) (w : World) : Calls Tryz.prog 51 #[cfv c, itv x] w fun e w' => e = .returned (.bool (itemB c x)) ∧ Calm w w' := by
  unfold itemB
  by_cases h1 : x.ki = 1
  · rw [if_pos h1]; exact mayBe_1 c x h1 w
  · by_cases h2 : x.ki = 2
    · rw [if_neg h1, if_pos h2]; exact mayBe_2 c x h2 w
    · by_cases h3 : x.ki = 3
      · rw [if_neg h1, if_neg h2, if_pos h3]; exact mayBe_3 c x h3 w
      · rw [if_neg h1, if_neg h2, if_neg h3]; exact mayBe_o c x h1 h2 h3 w

set_option maxRecDepth 100000 in
theorem item_any (c : Cf) (x : It) (w : World) : Calls Tryz.prog 35 #[cfv c, itv x] w fun e w' => e = .returned (.int .i64 (itemN c x : Nat)) ∧ Calm w w' := by
  have CK : Hid (∀ W, Calls Tryz.prog 9 #[cfv c] W fun e w' => e = .returned (.int .i64 (if wrongN c = 0 then 0 else 4)) ∧ Calm W w') := hide fun W => by
    have := check_any c W
    rw [ch_job] at this
    exact this
  have CM := fun w => hide (mayBe_any c x w)
  have A0 := hide (al_old (al_new w (.cells (cfc c) 24)) (.cells (itc x) 60))
  have A1 := al_new (w.alloc (.cells (cfc c) 24)) (.cells (itc x) 60)
  rw [al_size] at A1
  replace A1 := hide A1
  have T0 := hide (((Touch.refl (fun _ => False) w).alloc (.cells (cfc c) 24)).alloc (.cells (itc x) 60))
  have hN : itemN c x = if wrongN c ≠ 0 then 4 else if itemB c x then 0 else 5 := rfl
  generalize itemN c x = N at *
  generalize itemB c x = B at *
  by_cases hw : wrongN c = 0
  · rw [if_neg (fun h => h hw)] at hN
    have HN := hide hN
    simp only [if_pos hw] at CK
    clear hN hw
    go_enter Tryz.func35, Tryz.ntmps35
    go_wp2_with fail
    generalize (w.alloc (.cells (cfc c) 24)).alloc (.cells (itc x) 60) = w0 at *
    refine (CK.out _).mono ?_
    rintro e w1 ⟨rfl, T1⟩
    obtain ⟨⟨g0, g1, g2, g3, g4, g5, g6⟩, g7, g8, g9⟩ := cf_cells (T1.at A0.out)
    obtain ⟨c0, c1, c2, c3, c4⟩ := it_cells (T1.at A1.out)
    have TT1 := hide (T0.out.tr T1)
    clear CK A0 A1 T0 T1
    go_wp2_with fail
    refine (CM _).out.mono ?_
    rintro e w2 ⟨rfl, T2⟩
    have TT2 := hide (TT1.out.tr T2)
    clear T2 TT1 CM
    cases B with
    | true =>
      go_wp2_with fail
      go_ret
      exact ⟨by rw [HN.out]; rfl, TT2.out⟩
    | false =>
      go_wp2_with fail
      go_ret
      exact ⟨by rw [HN.out]; rfl, TT2.out⟩
  · rw [if_pos hw] at hN
    have HN := hide hN
    simp only [if_neg hw] at CK
    clear hN hw
    go_enter Tryz.func35, Tryz.ntmps35
    go_wp2_with fail
    generalize (w.alloc (.cells (cfc c) 24)).alloc (.cells (itc x) 60) = w0 at *
    refine (CK.out _).mono ?_
    rintro e w1 ⟨rfl, T1⟩
    have TT1 := hide (T0.out.tr T1)
    clear CK A0 A1 T0 T1
    go_wp2_with fail
    go_ret
    exact ⟨by rw [HN.out]; rfl, TT1.out⟩

end Go.Proofs.YtapnjofplilefaaGreat
