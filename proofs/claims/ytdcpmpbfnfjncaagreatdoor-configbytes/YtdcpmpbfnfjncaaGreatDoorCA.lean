/- Jobs: which field may be (the document's within, field, Wrong). -/
import Derived.Test.YtdcpmpbfnfjncaaGreatDoorVCf
import Derived.Test.YtdcpmpbfnfjncaaGreatDoorYZ
namespace Go.Proofs.YtdcpmpbfnfjncaaGreatDoor
open Go.RowKit

/-- From lo to hi? -/
def inB (x lo hi : Int) : Bool := decide (lo ≤ x) && decide (x ≤ hi)
/-- May the field of that number be? -/
def fieldB (c : Cf) : Nat → Bool
  | 1 => inB c.gr 1 32768
  | 2 => inB c.so 1 64
  | 3 => (c.ki == 1 || c.ki == 2) || c.ki == 3
  | 4 => if c.ki = 3 then c.sz == 0 else inB c.sz 1 1099511627776
  | 5 => if ¬ c.ki = 2 then c.sl == 0 else (inB c.sl 1 c.sz && decide (c.sz ≤ wrap64 (64 * c.sl)))
  | 6 => if c.ki = 1 then inB c.of 0 (wrap64 (c.sz - 1)) else if c.ki = 2 then inB c.of 0 (wrap64 (c.sl - 1)) else c.of == 0
  | 7 => if ¬ c.ki = 3 then c.gp == 0 else inB c.gp 1 1099511627776
  | 8 => inB c.lt 0 1099511627776
  | _ => inB c.ea 0 2147483647
/-- The first field from n on, of k, that may not be; 0: none. -/
def wrongF (c : Cf) : Nat → Nat → Nat
  | _, 0 => 0
  | n, k + 1 => if fieldB c n then wrongF c (n + 1) k else n
def wrongN (c : Cf) : Nat := wrongF c 1 9

set_option maxRecDepth 100000 in
theorem rwithin_any (x lo hi : Int) (w : World) : Calls Tryz.prog 45 #[.int .i64 x, .int .i64 lo, .int .i64 hi] w fun e w' => e = .returned (.bool (inB x lo hi)) ∧ w' = w := by
  by_cases h : lo ≤ x
  · have hf : Hid (inB x lo hi = decide (x ≤ hi)) := hide (by unfold inB; simp [h])
    have hd : decide (lo ≤ x) = true := decide_eq_true h
    clear h
    go_enter Tryz.func45, Tryz.ntmps45
    go_wp2_with fail
    go_ret
    exact ⟨by rw [hf.out]; rfl, rfl⟩
  · have hf : Hid (inB x lo hi = false) := hide (by unfold inB; simp [h])
    have hd : decide (lo ≤ x) = false := decide_eq_false h
    clear h
    go_enter Tryz.func45, Tryz.ntmps45
    go_wp2_with fail
    go_ret
    exact ⟨by rw [hf.out]; rfl, rfl⟩

set_option maxRecDepth 100000 in
theorem rfield_1 (c : Cf) (w : World) : Calls Tryz.prog 23 #[cfv c, .int .i64 1] w fun e w' => e = .returned (.bool (fieldB c 1)) ∧ Calm w w' := by
  have CW := fun w => hide (rwithin_any c.gr 1 32768 w)
  have T0 := hide ((Touch.refl (fun _ => False) w).alloc (.cells (cfc c) 24))
  go_enter Tryz.func23, Tryz.ntmps23
  go_wp2_with fail
  refine (CW _).out.mono ?_
  rintro e w1 ⟨rfl, hq⟩
  subst hq
  go_wp2_with fail
  go_ret
  exact ⟨rfl, T0.out⟩

set_option maxRecDepth 100000 in
theorem rfield_2 (c : Cf) (w : World) : Calls Tryz.prog 23 #[cfv c, .int .i64 2] w fun e w' => e = .returned (.bool (fieldB c 2)) ∧ Calm w w' := by
  have CW := fun w => hide (rwithin_any c.so 1 64 w)
  have T0 := hide ((Touch.refl (fun _ => False) w).alloc (.cells (cfc c) 24))
  go_enter Tryz.func23, Tryz.ntmps23
  go_wp2_with fail
  refine (CW _).out.mono ?_
  rintro e w1 ⟨rfl, hq⟩
  subst hq
  go_wp2_with fail
  go_ret
  exact ⟨rfl, T0.out⟩

set_option maxRecDepth 100000 in
theorem rfield_8 (c : Cf) (w : World) : Calls Tryz.prog 23 #[cfv c, .int .i64 8] w fun e w' => e = .returned (.bool (fieldB c 8)) ∧ Calm w w' := by
  have CW := fun w => hide (rwithin_any c.lt 0 1099511627776 w)
  have T0 := hide ((Touch.refl (fun _ => False) w).alloc (.cells (cfc c) 24))
  go_enter Tryz.func23, Tryz.ntmps23
  go_wp2_with fail
  refine (CW _).out.mono ?_
  rintro e w1 ⟨rfl, hq⟩
  subst hq
  go_wp2_with fail
  go_ret
  exact ⟨rfl, T0.out⟩

set_option maxRecDepth 100000 in
theorem rfield_9 (c : Cf) (w : World) : Calls Tryz.prog 23 #[cfv c, .int .i64 9] w fun e w' => e = .returned (.bool (fieldB c 9)) ∧ Calm w w' := by
  have CW := fun w => hide (rwithin_any c.ea 0 2147483647 w)
  have T0 := hide ((Touch.refl (fun _ => False) w).alloc (.cells (cfc c) 24))
  go_enter Tryz.func23, Tryz.ntmps23
  go_wp2_with fail
  refine (CW _).out.mono ?_
  rintro e w1 ⟨rfl, hq⟩
  subst hq
  go_wp2_with fail
  go_ret
  exact ⟨rfl, T0.out⟩

set_option maxRecDepth 100000 in
theorem rfield_3 (c : Cf) (w : World) : Calls Tryz.prog 23 #[cfv c, .int .i64 3] w fun e w' => e = .returned (.bool (fieldB c 3)) ∧ Calm w w' := by
  have T0 := hide ((Touch.refl (fun _ => False) w).alloc (.cells (cfc c) 24))
  have hf : Hid (fieldB c 3 = ((c.ki == 1 || c.ki == 2) || c.ki == 3)) := hide rfl
  generalize fieldB c 3 = r at *
  by_cases h1 : c.ki = 1
  · have d1 : (c.ki == 1) = true := by simp [h1]
    have hr : Hid (r = true) := hide (by rw [hf.out, d1]; rfl)
    clear hf h1
    go_enter Tryz.func23, Tryz.ntmps23
    go_wp2_with fail
    go_ret
    exact ⟨by rw [hr.out]; rfl, T0.out⟩
  · have d1 : (c.ki == 1) = false := by simp [h1]
    by_cases h2 : c.ki = 2
    · have d2 : (c.ki == 2) = true := by simp [h2]
      have hr : Hid (r = true) := hide (by rw [hf.out, d1, d2]; rfl)
      clear hf h1 h2
      go_enter Tryz.func23, Tryz.ntmps23
      go_wp2_with fail
      go_ret
      exact ⟨by rw [hr.out]; rfl, T0.out⟩
    · have d2 : (c.ki == 2) = false := by simp [h2]
      have hr : Hid (r = (c.ki == 3)) := hide (by rw [hf.out, d1, d2]; rfl)
      clear hf h1 h2
      go_enter Tryz.func23, Tryz.ntmps23
      go_wp2_with fail
      go_ret
      exact ⟨by rw [hr.out]; rfl, T0.out⟩

set_option maxRecDepth 100000 in
theorem rfield_4 (c : Cf) (w : World) : Calls Tryz.prog 23 #[cfv c, .int .i64 4] w fun e w' => e = .returned (.bool (fieldB c 4)) ∧ Calm w w' := by
  have CW := fun w => hide (rwithin_any c.sz 1 1099511627776 w)
  have T0 := hide ((Touch.refl (fun _ => False) w).alloc (.cells (cfc c) 24))
  have hf : Hid (fieldB c 4 = if c.ki = 3 then c.sz == 0 else inB c.sz 1 1099511627776) := hide rfl
  generalize fieldB c 4 = r at *
  by_cases h1 : c.ki = 3
  · have d1 : (c.ki == 3) = true := by simp [h1]
    have hr : Hid (r = (c.sz == 0)) := hide (by rw [hf.out, if_pos h1])
    clear hf h1
    go_enter Tryz.func23, Tryz.ntmps23
    go_wp2_with fail
    go_ret
    exact ⟨by rw [hr.out]; rfl, T0.out⟩
  · have d1 : (c.ki == 3) = false := by simp [h1]
    have hr : Hid (r = inB c.sz 1 1099511627776) := hide (by rw [hf.out, if_neg h1])
    clear hf h1
    go_enter Tryz.func23, Tryz.ntmps23
    go_wp2_with fail
    refine (CW _).out.mono ?_
    rintro e w1 ⟨rfl, hq⟩
    subst hq
    go_wp2_with fail
    go_ret
    exact ⟨by rw [hr.out]; rfl, T0.out⟩

set_option maxRecDepth 100000 in
theorem rfield_7 (c : Cf) (w : World) : Calls Tryz.prog 23 #[cfv c, .int .i64 7] w fun e w' => e = .returned (.bool (fieldB c 7)) ∧ Calm w w' := by
  have CW := fun w => hide (rwithin_any c.gp 1 1099511627776 w)
  have T0 := hide ((Touch.refl (fun _ => False) w).alloc (.cells (cfc c) 24))
  have hf : Hid (fieldB c 7 = if ¬ c.ki = 3 then c.gp == 0 else inB c.gp 1 1099511627776) := hide rfl
  generalize fieldB c 7 = r at *
  by_cases h1 : c.ki = 3
  · have d1 : (c.ki != 3) = false := by simp [h1]
    have hr : Hid (r = inB c.gp 1 1099511627776) := hide (by rw [hf.out, if_neg (fun q => q h1)])
    clear hf h1
    go_enter Tryz.func23, Tryz.ntmps23
    go_wp2_with fail
    refine (CW _).out.mono ?_
    rintro e w1 ⟨rfl, hq⟩
    subst hq
    go_wp2_with fail
    go_ret
    exact ⟨by rw [hr.out]; rfl, T0.out⟩
  · have d1 : (c.ki != 3) = true := by simp [h1]
    have hr : Hid (r = (c.gp == 0)) := hide (by rw [hf.out, if_pos h1])
    clear hf h1
    go_enter Tryz.func23, Tryz.ntmps23
    go_wp2_with fail
    go_ret
    exact ⟨by rw [hr.out]; rfl, T0.out⟩

set_option maxRecDepth 100000 in
theorem rfield_5 (c : Cf) (w : World) : Calls Tryz.prog 23 #[cfv c, .int .i64 5] w fun e w' => e = .returned (.bool (fieldB c 5)) ∧ Calm w w' := by
  have CW := fun w => hide (rwithin_any c.sl 1 c.sz w)
  have T0 := hide ((Touch.refl (fun _ => False) w).alloc (.cells (cfc c) 24))
  have hf : Hid (fieldB c 5 = if ¬ c.ki = 2 then c.sl == 0 else (inB c.sl 1 c.sz && decide (c.sz ≤ wrap64 (64 * c.sl)))) := hide rfl
  generalize fieldB c 5 = r at *
  by_cases h1 : c.ki = 2
  · have d1 : (c.ki != 2) = false := by simp [h1]
    have hr : Hid (r = (inB c.sl 1 c.sz && decide (c.sz ≤ wrap64 (64 * c.sl)))) := hide (by rw [hf.out, if_neg (fun q => q h1)])
    clear hf h1
    generalize inB c.sl 1 c.sz = ib at *
    cases ib
    all_goals
      go_enter Tryz.func23, Tryz.ntmps23
      go_wp2_with fail
      refine (CW _).out.mono ?_
      rintro e w1 ⟨rfl, hq⟩
      subst hq
      go_wp2_with fail
      go_ret
      exact ⟨by rw [hr.out]; rfl, T0.out⟩
  · have d1 : (c.ki != 2) = true := by simp [h1]
    have hr : Hid (r = (c.sl == 0)) := hide (by rw [hf.out, if_pos h1])
    clear hf h1
    go_enter Tryz.func23, Tryz.ntmps23
    go_wp2_with fail
    go_ret
    exact ⟨by rw [hr.out]; rfl, T0.out⟩

set_option maxRecDepth 100000 in
theorem rfield_6 (c : Cf) (w : World) : Calls Tryz.prog 23 #[cfv c, .int .i64 6] w fun e w' => e = .returned (.bool (fieldB c 6)) ∧ Calm w w' := by
  have CW := fun h w => hide (rwithin_any c.of 0 h w)
  have T0 := hide ((Touch.refl (fun _ => False) w).alloc (.cells (cfc c) 24))
  have hf : Hid (fieldB c 6 = if c.ki = 1 then inB c.of 0 (wrap64 (c.sz - 1)) else if c.ki = 2 then inB c.of 0 (wrap64 (c.sl - 1)) else c.of == 0) := hide rfl
  generalize fieldB c 6 = r at *
  by_cases h1 : c.ki = 1
  · have d1 : (c.ki == 1) = true := by simp [h1]
    have hr : Hid (r = inB c.of 0 (wrap64 (c.sz - 1))) := hide (by rw [hf.out, if_pos h1])
    clear hf h1
    go_enter Tryz.func23, Tryz.ntmps23
    go_wp2_with fail
    refine (CW _ _).out.mono ?_
    rintro e w1 ⟨rfl, hq⟩
    subst hq
    go_wp2_with fail
    go_ret
    exact ⟨by rw [hr.out]; rfl, T0.out⟩
  · have d1 : (c.ki == 1) = false := by simp [h1]
    by_cases h2 : c.ki = 2
    · have d2 : (c.ki == 2) = true := by simp [h2]
      have hr : Hid (r = inB c.of 0 (wrap64 (c.sl - 1))) := hide (by rw [hf.out, if_neg h1, if_pos h2])
      clear hf h1 h2
      go_enter Tryz.func23, Tryz.ntmps23
      go_wp2_with fail
      refine (CW _ _).out.mono ?_
      rintro e w1 ⟨rfl, hq⟩
      subst hq
      go_wp2_with fail
      go_ret
      exact ⟨by rw [hr.out]; rfl, T0.out⟩
    · have d2 : (c.ki == 2) = false := by simp [h2]
      have hr : Hid (r = (c.of == 0)) := hide (by rw [hf.out, if_neg h1, if_neg h2])
      clear hf h1 h2
      go_enter Tryz.func23, Tryz.ntmps23
      go_wp2_with fail
      go_ret
      exact ⟨by rw [hr.out]; rfl, T0.out⟩

theorem rfield_any (c : Cf) (n : Nat) (h1 : 1 ≤ n) (h9 : n ≤ 9) (w : World) : Calls Tryz.prog 23 #[cfv c, .int .i64 (n : Int)] w fun e w' => e = .returned (.bool (fieldB c n)) ∧ Calm w w' := by
  rcases (by omega : n = 1 ∨ n = 2 ∨ n = 3 ∨ n = 4 ∨ n = 5 ∨ n = 6 ∨ n = 7 ∨ n = 8 ∨ n = 9) with rfl | rfl | rfl | rfl | rfl | rfl | rfl | rfl | rfl
  · exact rfield_1 c w
  · exact rfield_2 c w
  · exact rfield_3 c w
  · exact rfield_4 c w
  · exact rfield_5 c w
  · exact rfield_6 c w
  · exact rfield_7 c w
  · exact rfield_8 c w
  · exact rfield_9 c w

set_option maxRecDepth 100000 in
theorem rwrong_any (c : Cf) (w : World) : Calls Tryz.prog 7 #[cfv c] w fun e w' => e = .returned (.int .i64 (wrongN c : Nat)) ∧ Calm w w' := by
  have CF : Hid (∀ (n : Nat) (W : World), 1 ≤ n → n ≤ 9 → Calls Tryz.prog 23 #[cfv c, .int .i64 (n : Int)] W fun e w' => e = .returned (.bool (fieldB c n)) ∧ Calm W w') := hide fun n W h1 h9 => rfield_any c n h1 h9 W
  have T0 := hide ((Touch.refl (fun _ => False) w).alloc (.cells (cfc c) 24))
  have A0 := hide (al_new w (.cells (cfc c) 24))
  have ST : Hid (∀ n k, wrongF c n (k + 1) = if fieldB c n then wrongF c (n + 1) k else n) := hide fun n k => rfl
  have S0 : Hid (wrongF c 1 9 = wrongN c) := hide rfl
  generalize wrongN c = r at *
  go_enter Tryz.func7, Tryz.ntmps7
  go_wp2_with fail
  generalize w.heap.size = B at *
  generalize w.alloc (.cells (cfc c) 24) = w0 at *
  go_loopw [3] (fun s wr => ∃ n : Nat, s = .int .i64 (n : Int) ∧ 1 ≤ n ∧ n ≤ 10 ∧ wrongF c n (10 - n) = r ∧ Calm w0 wr) (fun s _ => 10 - (intOf s).toNat)
  case atStart => exact ⟨1, rfl, by omega, by omega, S0.out, Touch.refl _ _⟩
  case round =>
    obtain ⟨n, rfl, h1, h10, hr, TL⟩ := hrel
    by_cases hlt : n ≤ 9
    · have hltz : (n : Int) ≤ 9 := by omega
      have C1 := hide (CF.out n wr h1 hlt)
      have hr2 := hr
      rw [show 10 - n = (10 - (n + 1)) + 1 by omega, ST.out] at hr2
      have HR := hide hr2
      obtain ⟨⟨g0, g1, g2, g3, g4, g5, g6⟩, g7, g8, g9⟩ := cf_cells (TL.at A0.out)
      have HTL := hide TL
      clear hr hr2 TL
      generalize fieldB c n = fb at *
      go_wp2_with fail
      refine C1.out.mono ?_
      rintro e w1 ⟨rfl, T1⟩
      have HT1 := hide (HTL.out.tr T1)
      clear T1 C1 g0 g1 g2 g3 g4 g5 g6 g7 g8 g9
      cases fb with
      | true =>
        have HR2 : Hid (wrongF c (n + 1) (10 - (n + 1)) = r) := hide (by have := HR.out; simpa using this)
        go_wp2_with fail
        go_roundw
        case rel => exact ⟨n + 1, by go_num, by omega, by omega, HR2.out, HT1.out⟩
        case measure => simp [intOf]; omega
      | false =>
        have HR2 : Hid (n = r) := hide (by have := HR.out; simpa using this)
        go_wp2_with fail
        go_ret
        exact ⟨by rw [HR2.out]; rfl, T0.out.tr HT1.out⟩
    · have hltz : ¬ (n : Int) ≤ 9 := by omega
      obtain rfl : n = 10 := by omega
      have HR : Hid (0 = r) := hide hr
      have HTL := hide TL
      clear hr TL
      go_wp2_with fail
      go_ret
      exact ⟨by rw [← HR.out]; rfl, T0.out.tr HTL.out⟩

end Go.Proofs.YtdcpmpbfnfjncaaGreatDoor
