/- A job's text (the document's names, value). -/
import Derived.Test.YtdcpmpbfnfjncaaGreatDoorCV0
namespace Go.Proofs.YtdcpmpbfnfjncaaGreatDoor
open Go.RowKit

set_option maxRecDepth 100000 in
theorem rnames_any (w : World) : Calls Tryz.prog 28 #[] w fun e w' => e = .returned (.slice (some ⟨w.heap.size, 0, none⟩) 10 10) ∧ w' = w.alloc (.cells nms 9) := by
  go_enter Tryz.func28, Tryz.ntmps28
  go_wp2_with fail
  go_ret
  exact ⟨rfl, rfl⟩

set_option maxRecDepth 100000 in
theorem rvalue_2_1 (w : World) : Calls Tryz.prog 29 #[.int .i64 2, .int .i64 1] w fun e w' => e = .returned (.string (valB 2 1)) ∧ Calm w w' := by
  have T0 : Hid (∀ o, Calm w (w.alloc o)) := hide fun o => (Touch.refl _ w).alloc o
  go_enter Tryz.func29, Tryz.ntmps29
  go_wp2_with fail
  go_ret
  exact ⟨rfl, T0.out _⟩

set_option maxRecDepth 100000 in
theorem rvalue_2_2 (w : World) : Calls Tryz.prog 29 #[.int .i64 2, .int .i64 2] w fun e w' => e = .returned (.string (valB 2 2)) ∧ Calm w w' := by
  have T0 : Hid (∀ o, Calm w (w.alloc o)) := hide fun o => (Touch.refl _ w).alloc o
  go_enter Tryz.func29, Tryz.ntmps29
  go_wp2_with fail
  go_ret
  exact ⟨rfl, T0.out _⟩

set_option maxRecDepth 100000 in
theorem rvalue_2_3 (w : World) : Calls Tryz.prog 29 #[.int .i64 2, .int .i64 3] w fun e w' => e = .returned (.string (valB 2 3)) ∧ Calm w w' := by
  have T0 : Hid (∀ o, Calm w (w.alloc o)) := hide fun o => (Touch.refl _ w).alloc o
  go_enter Tryz.func29, Tryz.ntmps29
  go_wp2_with fail
  go_ret
  exact ⟨rfl, T0.out _⟩

set_option maxRecDepth 100000 in
theorem rvalue_9_0 (w : World) : Calls Tryz.prog 29 #[.int .i64 9, .int .i64 0] w fun e w' => e = .returned (.string (valB 9 0)) ∧ Calm w w' := by
  have T0 : Hid (∀ o, Calm w (w.alloc o)) := hide fun o => (Touch.refl _ w).alloc o
  go_enter Tryz.func29, Tryz.ntmps29
  go_wp2_with fail
  go_ret
  exact ⟨rfl, T0.out _⟩

set_option maxRecDepth 100000 in
theorem rvalue_9_1 (w : World) : Calls Tryz.prog 29 #[.int .i64 9, .int .i64 1] w fun e w' => e = .returned (.string (valB 9 1)) ∧ Calm w w' := by
  have T0 : Hid (∀ o, Calm w (w.alloc o)) := hide fun o => (Touch.refl _ w).alloc o
  go_enter Tryz.func29, Tryz.ntmps29
  go_wp2_with fail
  go_ret
  exact ⟨rfl, T0.out _⟩

set_option maxRecDepth 100000 in
theorem rvalue_any (i : Nat) (x : Int) (hi : i < 10) (hx : ValOk i x) (w : World) (ht : Tab w) : Calls Tryz.prog 29 #[.int .i64 (i : Int), .int .i64 x] w fun e w' => e = .returned (.string (valB i x)) ∧ Calm w w' := by
  obtain ⟨v1, v2, v3, v4⟩ := hx
  by_cases h2 : i = 2
  · subst h2
    obtain ⟨a, b⟩ := v1 rfl
    rcases (by omega : x = 1 ∨ x = 2 ∨ x = 3) with rfl | rfl | rfl
    · exact rvalue_2_1 w
    · exact rvalue_2_2 w
    · exact rvalue_2_3 w
  · by_cases h9 : i = 9
    · subst h9
      obtain ⟨a, b⟩ := v2 rfl
      rcases (by omega : x = 0 ∨ x = 1) with rfl | rfl
      · exact rvalue_9_0 w
      · exact rvalue_9_1 w
    · have HV : Hid (valB i x = ⟨(Lib.itoa x).toArray⟩) := hide (by unfold valB; rw [if_neg h2, if_neg h9])
      have CF := hide (format_any x v3 v4 w ht)
      have z2 : ¬ (i : Int) = 2 := by omega
      have z9 : ¬ (i : Int) = 9 := by omega
      clear v1 v2 h2 h9
      go_enter Tryz.func29, Tryz.ntmps29
      go_wp2_with fail
      refine CF.out.mono ?_
      rintro e w1 ⟨rfl, T1⟩
      have HT := hide T1
      clear T1 CF
      go_wp2_with fail
      go_ret
      exact ⟨by rw [HV.out]; rfl, HT.out⟩

end Go.Proofs.YtdcpmpbfnfjncaaGreatDoor
