/- Values put to a tally, one by one. -/
import Derived.Test.YtfmlbcddomggaaaYA
namespace Go.Proofs.Ytfmlbcddomggaaa
open Go.RowKit

set_option maxRecDepth 100000 in
set_option maxHeartbeats 1000000 in
theorem add_any (t : Tl) (v : Int) (w : World) : Calls Try.prog 28 #[tlv t, .int .i64 v] w fun e w' => e = .returned (tlv (addT t v)) ∧ Calm w w' := by
  have P := fun w => hide (put_any t ⟨1, v, v, v⟩ (Int.le_refl 1) w)
  unfold addT
  go_enter Try.func28, Try.ntmps28
  go_wp2_with fail
  refine (P _).out.mono ?_
  rintro e w1 ⟨rfl, hq⟩
  have A2 := hq.at (al_new (w.alloc _) _)
  rw [al_size] at A2
  have T1 := hide (Touch.tr ((((Touch.refl (fun _ => False) w).alloc _).alloc _)) hq)
  clear P hq
  generalize hr : putT t ⟨1, v, v, v⟩ = r
  have HR := hide hr
  clear hr
  obtain ⟨c0, c1, c2, c3⟩ := tl_cells (t := ⟨0, 0, 0, 0⟩) A2
  obtain ⟨z0, z1, z2, z3⟩ := tl_frozen A2
  obtain ⟨A3, T3⟩ := tl_set (t := ⟨0, 0, 0, 0⟩) r A2
  have A4 := hide A3
  have T4 := hide (Touch.trans T1.out T3 (fun k hk e => by omega))
  clear A2 A3 T3 T1
  go_wp2_with fail
  refine bodyPost_ret (results_cell_row rfl _ _ _ _ _ _ _ rfl A4.out Try.underlying28 rfl (by kernel_rfl)) rfl ?_
  exact ⟨by rw [HR.out], T4.out⟩

end Go.Proofs.Ytfmlbcddomggaaa
