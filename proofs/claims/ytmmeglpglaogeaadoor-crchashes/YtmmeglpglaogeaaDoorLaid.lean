/- What the row's list of variables gives: the sixteen numbers lie in memory; a world for the witness. -/
import Derived.Test.YtmmeglpglaogeaaDoorCards
import Derived.Test.YtmmeglpglaogeaaDoorTie
import Derived.Test.YtmmeglpglaogeaaDoorCrc1
import Derived.ProofKit
import Derived.OpenShut
import Derived.Deep.DeepHandedRow
import Derived.Lib.LaidTab
namespace Go.Proofs.YtmmeglpglaogeaaDoor
open Go.ChangeShapes Go.WideShapes Go.ChangeAt Go.RowKit Crcx

theorem own : ownKnob Tryd.prog.godebug = none := by kernel_rfl
theorem laidOut : laidOutB Tryd.prog = true := by kernel_rfl
theorem gTab : Tryd.prog.globalNamed "keepsake/crc.fourSteps" = some 0 := by kernel_rfl
theorem gTabType : (Tryd.prog.globals[0]?).map (·.type) = some 55 := by kernel_rfl
theorem cellsArr : Tryd.prog.cellsOf 55 = 16 := by kernel_rfl
theorem cellsU32 : Tryd.prog.cellsOf 36 = 1 := by kernel_rfl

/-- The list of variables that each row has. -/
abbrev laids : List (String × DataW Unit) := [("keepsake/crc.fourSteps", Rows.laid_keepsake_crc_fourSteps)]

theorem four_get : ∀ i : Fin 16, ([0, 274646895, 549293790, 820201905, 1098587580, 1361435347, 1640403810, 1905808397, 2197175160, 2460548119, 2722870694, 2987750089, 3280807620, 3553878443, 3811616794, 4084100981] : List Int).getD i.1 0 = ((stps 4 i.1 : Nat) : Int) := by decide +kernel

theorem table {W : World} (h : laidMetH Tryd.prog laids W) : Tab W := by
  have t : Lib.TabIs Tryd.prog W "keepsake/crc.fourSteps" .u32 [0, 274646895, 549293790, 820201905, 1098587580, 1361435347, 1640403810, 1905808397, 2197175160, 2460548119, 2722870694, 2987750089, 3280807620, 3553878443, 3811616794, 4084100981] :=
    Lib.tabIs_of_head (rest := []) gTab gTabType Tryd.underlying55 Tryd.underlying36 cellsU32 cellsArr h
  refine ⟨fun i hi => ?_⟩
  rw [t.cell gTab i (by simpa using hi), four_get ⟨i, hi⟩]

/-- A world for the witness: the settled one, the table holding what its initialiser lays. -/
noncomputable def laidWorld (os : Os) : World :=
  { World.holding Tryd.prog os ⟨#[], #[], []⟩ with heap := (World.holding Tryd.prog os ⟨#[], #[], []⟩).heap.modify 0 fun
      | .cells _ t frozen => .cells #[.int .u32 0, .int .u32 274646895, .int .u32 549293790, .int .u32 820201905, .int .u32 1098587580, .int .u32 1361435347, .int .u32 1640403810, .int .u32 1905808397, .int .u32 2197175160, .int .u32 2460548119, .int .u32 2722870694, .int .u32 2987750089, .int .u32 3280807620, .int .u32 3553878443, .int .u32 3811616794, .int .u32 4084100981] t frozen
      | o => o }

end Go.Proofs.YtmmeglpglaogeaaDoor
