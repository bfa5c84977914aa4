/- cmp.Compare of whole numbers. -/
import Derived.Test.YtegiinnhknfjjaaSSide
namespace Go.Proofs.Ytegiinnhknfjjaa
open Go.RowKit

/-- How two whole numbers compare. -/
def cmpI (a b : Int) : Int := if a < b then -1 else if b < a then 1 else 0

set_option maxRecDepth 100000 in
theorem isNaNI_any (a : Int) (w : World) : Calls Try.prog 75 #[.int .i64 a] w fun e w' => e = .returned (.bool false) ∧ w' = w := by
  go_enter Try.func75, Try.ntmps75
  go_wp2_with fail
  go_ret
  exact ⟨by simp, rfl⟩

set_option maxRecDepth 100000 in
theorem cmpI_any (a b : Int) (w : World) : Calls Try.prog 58 #[.int .i64 a, .int .i64 b] w fun e w' => e = .returned (.int .i64 (cmpI a b)) ∧ w' = w := by
  have NA := hide (isNaNI_any a w)
  have NB := hide (isNaNI_any b w)
  unfold cmpI
  rcases Int.lt_trichotomy a b with h | h | h
  · go_enter Try.func58, Try.ntmps58
    go_wp2_with fail
    refine NA.out.mono ?_
    rintro e w' ⟨rfl, hq⟩
    obtain rfl := hq.symm
    clear hq
    go_wp2_with fail
    refine NB.out.mono ?_
    rintro e w' ⟨rfl, hq⟩
    obtain rfl := hq.symm
    clear hq
    go_wp2_with fail
    go_ret
    exact ⟨by simp, rfl⟩
  · subst h
    go_enter Try.func58, Try.ntmps58
    go_wp2_with fail
    refine NA.out.mono ?_
    rintro e w' ⟨rfl, hq⟩
    obtain rfl := hq.symm
    clear hq
    go_wp2_with fail
    refine NB.out.mono ?_
    rintro e w' ⟨rfl, hq⟩
    obtain rfl := hq.symm
    clear hq
    go_wp2_with fail
    go_ret
    exact ⟨by simp, rfl⟩
  · have h' : ¬ a < b := by omega
    go_enter Try.func58, Try.ntmps58
    go_wp2_with fail
    refine NA.out.mono ?_
    rintro e w' ⟨rfl, hq⟩
    obtain rfl := hq.symm
    clear hq
    go_wp2_with fail
    refine NB.out.mono ?_
    rintro e w' ⟨rfl, hq⟩
    obtain rfl := hq.symm
    clear hq
    go_wp2_with fail
    go_ret
    exact ⟨by simp, rfl⟩

end Go.Proofs.Ytegiinnhknfjjaa
