/- Items (the program's isKey, isTime, isCount). -/
import Derived.Test.YtdcpmpbfnfjncaaDoorEC
import Derived.Test.YtdcpmpbfnfjncaaDoorCI0
namespace Go.Proofs.YtdcpmpbfnfjncaaDoor
open Go.RowKit

set_option maxRecDepth 100000 in
theorem isKey_any (s : ByteArray) (w : World) : Calls Tryd.prog 47 #[.string s] w fun e w' => e = .returned (.bool (decide (s.size ≤ 256))) ∧ w' = w := by
  have e : decide (((s.size : Nat) : Int) ≤ 256) = decide (s.size ≤ 256) := by
    by_cases h : s.size ≤ 256
    · rw [decide_eq_true h, decide_eq_true (by omega)]
    · rw [decide_eq_false h, decide_eq_false (by omega)]
  have HE := hide e
  clear e
  go_enter Tryd.func47, Tryd.ntmps47
  go_wp2_with fail
  go_ret
  exact ⟨by rw [← HE.out]; rfl, rfl⟩

set_option maxRecDepth 100000 in
theorem isTime_any (x : Int) (w : World) : Calls Tryd.prog 27 #[.int .i64 x] w fun e w' => e = .returned (.bool (inB x (-4611686018427387904) 4611686018427387904)) ∧ w' = w := by
  by_cases h : (-4611686018427387904) ≤ x
  · have hf : Hid (inB x (-4611686018427387904) 4611686018427387904 = decide (x ≤ 4611686018427387904)) := hide (by unfold inB; simp [h])
    have hd : decide ((-4611686018427387904) ≤ x) = true := decide_eq_true h
    clear h
    go_enter Tryd.func27, Tryd.ntmps27
    go_wp2_with fail
    go_ret
    exact ⟨by rw [hf.out]; rfl, rfl⟩
  · have hf : Hid (inB x (-4611686018427387904) 4611686018427387904 = false) := hide (by unfold inB; simp [h])
    have hd : decide ((-4611686018427387904) ≤ x) = false := decide_eq_false h
    clear h
    go_enter Tryd.func27, Tryd.ntmps27
    go_wp2_with fail
    go_ret
    exact ⟨by rw [hf.out]; rfl, rfl⟩
set_option maxRecDepth 100000 in
theorem isCount_any (x : Int) (w : World) : Calls Tryd.prog 48 #[.int .i64 x] w fun e w' => e = .returned (.bool (inB x 0 9007199254740992)) ∧ w' = w := by
  by_cases h : 0 ≤ x
  · have hf : Hid (inB x 0 9007199254740992 = decide (x ≤ 9007199254740992)) := hide (by unfold inB; simp [h])
    have hd : decide (0 ≤ x) = true := decide_eq_true h
    clear h
    go_enter Tryd.func48, Tryd.ntmps48
    go_wp2_with fail
    go_ret
    exact ⟨by rw [hf.out]; rfl, rfl⟩
  · have hf : Hid (inB x 0 9007199254740992 = false) := hide (by unfold inB; simp [h])
    have hd : decide (0 ≤ x) = false := decide_eq_false h
    clear h
    go_enter Tryd.func48, Tryd.ntmps48
    go_wp2_with fail
    go_ret
    exact ⟨by rw [hf.out]; rfl, rfl⟩

end Go.Proofs.YtdcpmpbfnfjncaaDoor
