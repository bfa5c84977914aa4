/- The walk of ConfigChecks. -/
import Derived.Test.YtjambfncemlenaaDoorEI
namespace Go.Proofs.YtjambfncemlenaaDoor
open Go.RowKit

set_option maxRecDepth 100000 in
set_option maxHeartbeats 1000000 in
theorem checks_walk (c : Cf) (w : World) (ht : Tab w) (hw : Words w gW) : Calls Tryd.prog 3 #[cfv c] w fun e w' => e = .returned (.bool true) ∧ Calm w w' := by
  have CN := fun x w => hide (num_any x w)
  have CW : Hid (∀ W, Calm w W → Calls Tryd.prog 12 #[] W fun e w' => e = .returned (.bool true) ∧ Calm W w') := hide fun W hW => works_any W (ht.calm hW) (hw.calm hW)
  have CU : Hid (∀ W, Calls Tryd.prog 8 #[cfv c] W fun e w' => e = .returned (.tuple #[.int .i64 (wrongN c : Nat), .int .i64 (if wrongN c = 0 then 0 else 4)]) ∧ Calm W w') := hide fun W => by
    have := wrong_any c W
    rw [wr_job] at this
    exact this
  have CK : Hid (∀ W, Calls Tryd.prog 11 #[cfv c] W fun e w' => e = .returned (.int .i64 (if wrongN c = 0 then 0 else 4)) ∧ Calm W w') := hide fun W => by
    have := check_any c W
    rw [ch_job] at this
    exact this
  have CR := fun w => hide (rwrong_any c w)
  have A0 := hide (al_new w (.cells (cfc c) 24))
  have T0 := hide ((Touch.refl (fun _ => False) w).alloc (.cells (cfc c) 24))
  clear ht hw
  obtain ⟨k, hk⟩ : ∃ k : Int, k = if wrongN c = 0 then 0 else 4 := ⟨_, rfl⟩
  rw [← hk] at CU CK
  have HK : Hid ((wrongN c = 0 ∧ k = 0) ∨ (¬ wrongN c = 0 ∧ k = 4)) := hide (by
    by_cases h : wrongN c = 0
    · rw [if_pos h] at hk; exact .inl ⟨h, hk⟩
    · rw [if_neg h] at hk; exact .inr ⟨h, hk⟩)
  clear hk
  generalize wrongN c = N at *
  go_enter Tryd.func3, Tryd.ntmps3
  go_wp2_with fail
  generalize w.alloc (.cells (cfc c) 24) = w0 at *
  generalize w.heap.size = A at *
  refine (CU.out _).mono ?_
  rintro e w1 ⟨rfl, T1⟩
  have B1 := T1.at A0.out
  have TT1 := T0.out.tr T1
  obtain ⟨⟨g0, g1, g2, g3, g4, g5, g6⟩, g7, g8, g9⟩ := cf_cells B1
  clear CU T1 A0 T0
  go_wp2_with fail
  refine (CR _).out.mono ?_
  rintro e w2 ⟨rfl, T2⟩
  have B2 := T2.at B1
  have TT2 := hide (TT1.tr T2)
  clear g0 g1 g2 g3 g4 g5 g6 g7 g8 g9 B1 TT1 T2 CR
  obtain ⟨⟨g0, g1, g2, g3, g4, g5, g6⟩, g7, g8, g9⟩ := cf_cells B2
  clear B2
  rcases HK.out with ⟨h, rfl⟩ | ⟨h, rfl⟩
  · subst h
    clear HK
    go_wp2_with fail
    refine (CN _ _).out.mono ?_
    rintro e w6 ⟨rfl, hw6⟩
    subst hw6
    go_wp2_with fail
    refine (CK.out _).mono ?_
    rintro e w3 ⟨rfl, T3⟩
    have TT3 := hide (TT2.out.tr T3)
    clear T3 TT2
    go_wp2_with fail
    refine (CN _ _).out.mono ?_
    rintro e w6 ⟨rfl, hw6⟩
    subst hw6
    go_wp2_with fail
    refine (CW.out _ TT3.out).mono ?_
    rintro e w4 ⟨rfl, T4⟩
    have TT4 := hide (TT3.out.tr T4)
    clear T4 TT3
    go_wp2_with fail
    go_ret
    exact ⟨rfl, TT4.out⟩
  · have hz : ¬ ((N : Nat) : Int) = 0 := by omega
    clear HK h
    go_wp2_with fail
    refine (CN _ _).out.mono ?_
    rintro e w6 ⟨rfl, hw6⟩
    subst hw6
    go_wp2_with fail
    refine (CK.out _).mono ?_
    rintro e w3 ⟨rfl, T3⟩
    have TT3 := hide (TT2.out.tr T3)
    clear T3 TT2
    go_wp2_with fail
    refine (CN _ _).out.mono ?_
    rintro e w6 ⟨rfl, hw6⟩
    subst hw6
    go_wp2_with fail
    refine (CW.out _ TT3.out).mono ?_
    rintro e w4 ⟨rfl, T4⟩
    have TT4 := hide (TT3.out.tr T4)
    clear T4 TT3
    go_wp2_with fail
    go_ret
    exact ⟨rfl, TT4.out⟩

end Go.Proofs.YtjambfncemlenaaDoor
