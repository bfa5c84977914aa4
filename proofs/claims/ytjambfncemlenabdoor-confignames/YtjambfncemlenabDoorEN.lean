/- The walk of ConfigNames. -/
import Derived.Test.YtjambfncemlenabDoorEI
namespace Go.Proofs.YtjambfncemlenabDoor
open Go.RowKit

set_option maxRecDepth 100000 in
theorem names_walk (w : World) (ht : Tab w) (hw : Words w gW) : Calls Tryd.prog 4 #[] w fun e w' => e = .returned (.bool true) ∧ Calm w w' := by
  have CW := hide (works_any w ht hw)
  clear ht hw
  go_enter Tryd.func4, Tryd.ntmps4
  go_wp2_with fail
  refine CW.out.mono ?_
  rintro e w1 ⟨rfl, T1⟩
  have HT := hide T1
  clear T1 CW
  go_wp2_with fail
  go_ret
  exact ⟨rfl, HT.out⟩

end Go.Proofs.YtjambfncemlenabDoor
