/- The mean of a tally. -/
import Derived.Test.YtakpeopghhblmaaDoorYF
import Derived.Test.YtakpeopghhblmaaDoorYM
namespace Go.Proofs.YtakpeopghhblmaaDoor
open Go.RowKit Go.Lib

set_option maxRecDepth 100000 in
theorem mean_no (t : Tl) (h : t.c < 1) (w : World) : Calls Tryd.prog 20 #[tlv t] w fun e w' => e = .returned (.tuple #[.float .f64 0, .bool false]) ∧ Calm w w' := by
  have E := fun w => hide (isEmpty_any t w)
  go_enter Tryd.func20, Tryd.ntmps20
  go_wp2_with fail
  refine (E _).out.mono ?_
  rintro e w' ⟨rfl, hq⟩
  subst hq
  go_wp2_with fail
  go_ret2
  exact ⟨rfl, ((Touch.refl (fun _ => False) w).alloc _).alloc _⟩

set_option maxRecDepth 100000 in
theorem mean_yes (t : Tl) (h : ¬ t.c < 1) (r : Nat) (hr : floatBits .quo .f64 (floatOfInt .f64 t.s) (floatOfInt .f64 t.c) = some r) (w : World) : Calls Tryd.prog 20 #[tlv t] w fun e w' => e = .returned (.tuple #[.float .f64 r, .bool true]) ∧ Calm w w' := by
  have E := fun w => hide (isEmpty_any t w)
  have hq : ∀ (W : World) (ty : TypeId), (binOp .quo ty (.float .f64 (floatOfInt .f64 t.s)) (.float .f64 (floatOfInt .f64 t.c))).run Tryd.prog W = .ok (.float .f64 r) W := fun W ty => run_float_arith W .quo ty .f64 _ _ r hr
  clear hr
  go_enter Tryd.func20, Tryd.ntmps20
  go_wp2_with fail
  refine (E _).out.mono ?_
  rintro e w' ⟨rfl, hq⟩
  subst hq
  go_wp2_with fail
  go_ret2
  exact ⟨rfl, ((Touch.refl (fun _ => False) w).alloc _).alloc _⟩

end Go.Proofs.YtakpeopghhblmaaDoor
