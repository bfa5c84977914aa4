/- A job's bytes (notions). -/
import Derived.Test.YtdcpmpbfnfjncaaGreatDoorCB0
namespace Go.Proofs.YtdcpmpbfnfjncaaGreatDoor
open Go.RowKit

/-- The bytes of the first i numbers of a job. -/
def cfB (c : Cf) (i : Nat) : List Int := (List.range i).flatMap fun j => numb (fldF c j).toNat
theorem cfB_next (c : Cf) (i : Nat) : cfB c (i + 1) = cfB c i ++ numb (fldF c i).toNat := by
  unfold cfB
  rw [List.range_succ, List.flatMap_append]
  simp
/-- All numbers of a job are from 0 on. -/
def Cf.Pos (c : Cf) : Prop := ∀ j, j < 10 → 0 ≤ fldF c j ∧ fldF c j < 9223372036854775808
theorem cfB_len {c : Cf} (h : c.Pos) : ∀ i, i ≤ 10 → (cfB c i).length ≤ 10 * i
  | 0, _ => by simp [cfB]
  | i + 1, hi => by
    have h1 := cfB_len h i (by omega)
    have h2 := numb_len10 (x := (fldF c i).toNat) (by have := h i (by omega); omega)
    rw [cfB_next, List.length_append]
    omega

end Go.Proofs.YtdcpmpbfnfjncaaGreatDoor
