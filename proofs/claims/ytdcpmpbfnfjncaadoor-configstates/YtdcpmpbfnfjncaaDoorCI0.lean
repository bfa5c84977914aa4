/- Times (the document's Time). -/
import Derived.Test.YtdcpmpbfnfjncaaDoorCA
import Derived.Laws.StructEq
namespace Go.Proofs.YtdcpmpbfnfjncaaDoor
open Go.RowKit

/-- A time? -/
def timeB (t : Int) : Bool := inB t (-4611686018427387904) 4611686018427387904

set_option maxRecDepth 100000 in
theorem rtime_any (t : Int) (w : World) : Calls Tryd.prog 16 #[.int .i64 t] w fun e w' => e = .returned (.bool (timeB t)) ∧ w' = w := by
  have CW := fun w => hide (rwithin_any t (-4611686018427387904) 4611686018427387904 w)
  have HT : Hid (timeB t = inB t (-4611686018427387904) 4611686018427387904) := hide rfl
  generalize inB t (-4611686018427387904) 4611686018427387904 = X at *
  go_enter Tryd.func16, Tryd.ntmps16
  go_wp2_with fail
  refine (CW _).out.mono ?_
  rintro e w1 ⟨rfl, rfl⟩
  go_wp2_with fail
  go_ret
  exact ⟨by rw [HT.out]; rfl, rfl⟩

end Go.Proofs.YtdcpmpbfnfjncaaDoor
