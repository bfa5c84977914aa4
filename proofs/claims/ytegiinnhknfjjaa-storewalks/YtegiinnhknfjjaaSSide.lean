/- The program's sideOf. -/
import Derived.Test.YtegiinnhknfjjaaSBase
namespace Go.Proofs.Ytegiinnhknfjjaa
open Go.RowKit

/-- The side on which a key stands. -/
def sd (c : Int) : Int := if c < 0 then 0 else 1

theorem sd_or (c : Int) : sd c = 0 ∨ sd c = 1 := by unfold sd; split <;> simp

set_option maxRecDepth 100000 in
theorem sideOf_any (c : Int) (w : World) : Calls Try.prog 60 #[.int .i64 c] w fun e w' => e = .returned (.int .i64 (sd c)) ∧ w' = w := by
  unfold sd
  by_cases h : c < 0
  · go_enter Try.func60, Try.ntmps60
    go_wp2_with fail
    go_ret
    exact ⟨by simp, rfl⟩
  · go_enter Try.func60, Try.ntmps60
    go_wp2_with fail
    go_ret
    exact ⟨by simp, rfl⟩

end Go.Proofs.Ytegiinnhknfjjaa
