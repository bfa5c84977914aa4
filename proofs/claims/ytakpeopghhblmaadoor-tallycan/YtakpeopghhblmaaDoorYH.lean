/- The mean of a tally; how two of them compare. -/
import Derived.Test.YtakpeopghhblmaaDoorYG
import Derived.Test.YtakpeopghhblmaaDoorYM
namespace Go.Proofs.YtakpeopghhblmaaDoor
open Go.RowKit Go.Lib

set_option maxRecDepth 100000 in
theorem mean_no (t : Tl) (h : t.c < 1) (w : World) : Calls Tryd.prog 20 #[tlv t] w fun e w' => e = .returned (.tuple #[.float .f64 0, .bool false]) ∧ Calm w w' := by
  have E := fun w => hide (isEmpty_any t w)
  go_enter Tryd.func20, Tryd.ntmps20
  go_wp2_with fail
  refine (E _).out.mono ?_
  rintro e w' ⟨rfl, hq⟩
  subst hq
  go_wp2_with fail
  go_ret2
  exact ⟨rfl, ((Touch.refl (fun _ => False) w).alloc _).alloc _⟩

set_option maxRecDepth 100000 in
theorem mean_yes (t : Tl) (h : ¬ t.c < 1) (r : Nat) (hr : floatBits .quo .f64 (floatOfInt .f64 t.s) (floatOfInt .f64 t.c) = some r) (w : World) : Calls Tryd.prog 20 #[tlv t] w fun e w' => e = .returned (.tuple #[.float .f64 r, .bool true]) ∧ Calm w w' := by
  have E := fun w => hide (isEmpty_any t w)
  have hq : ∀ (W : World) (ty : TypeId), (binOp .quo ty (.float .f64 (floatOfInt .f64 t.s)) (.float .f64 (floatOfInt .f64 t.c))).run Tryd.prog W = .ok (.float .f64 r) W := fun W ty => run_float_arith W .quo ty .f64 _ _ r hr
  clear hr
  go_enter Tryd.func20, Tryd.ntmps20
  go_wp2_with fail
  refine (E _).out.mono ?_
  rintro e w' ⟨rfl, hq⟩
  subst hq
  go_wp2_with fail
  go_ret2
  exact ⟨rfl, ((Touch.refl (fun _ => False) w).alloc _).alloc _⟩

/-- Two numbers compared. -/
def cmpI (a b : Int) : Int := if a < b then -1 else if b < a then 1 else 0

set_option maxRecDepth 100000 in
theorem isNaN_any (a : Int) (w : World) : Calls Tryd.prog 38 #[.int .i64 a] w fun e w' => e = .returned (.bool false) ∧ w' = w := by
  go_enter Tryd.func38, Tryd.ntmps38
  go_wp2_with fail
  go_ret
  exact ⟨by simp, rfl⟩

set_option maxRecDepth 100000 in
set_option maxHeartbeats 1000000 in
theorem cmp64_any (a b : Int) (w : World) : Calls Tryd.prog 34 #[.int .i64 a, .int .i64 b] w fun e w' => e = .returned (.int .i64 (cmpI a b)) ∧ w' = w := by
  have N := fun a w => hide (isNaN_any a w)
  unfold cmpI
  rcases (by omega : a < b ∨ (¬ a < b ∧ b < a) ∨ (¬ a < b ∧ ¬ b < a)) with h | ⟨h1, h2⟩ | ⟨h1, h2⟩
  · rw [if_pos h]
    go_enter Tryd.func34, Tryd.ntmps34
    go_wp2_with (refine (N _ _).out.mono ?_; rintro e w' ⟨rfl, hq⟩; subst hq)
    go_ret
    exact ⟨rfl, rfl⟩
  · rw [if_neg h1, if_pos h2]
    go_enter Tryd.func34, Tryd.ntmps34
    go_wp2_with (refine (N _ _).out.mono ?_; rintro e w' ⟨rfl, hq⟩; subst hq)
    go_ret
    exact ⟨rfl, rfl⟩
  · rw [if_neg h1, if_neg h2]
    go_enter Tryd.func34, Tryd.ntmps34
    go_wp2_with (refine (N _ _).out.mono ?_; rintro e w' ⟨rfl, hq⟩; subst hq)
    go_ret
    exact ⟨rfl, rfl⟩

set_option maxRecDepth 100000 in
theorem numbers_any (t : Tl) (w : World) : Calls Tryd.prog 33 #[tlv t] w fun e w' => e = .returned (.agg (tlc t)) ∧ Calm w w' := by
  go_enter Tryd.func33, Tryd.ntmps33
  go_wp2_with fail
  have A := al_new (w.alloc (.cells (tlc t) 24)) (.cells (tlc t) 54)
  rw [al_size] at A
  refine bodyPost_ret (results_cell_row rfl _ _ _ _ _ _ _ rfl A Tryd.underlying54 rfl (by kernel_rfl)) rfl ?_
  exact ⟨rfl, (((Touch.refl (fun _ => False) w).alloc _).alloc _)⟩

end Go.Proofs.YtakpeopghhblmaaDoor
