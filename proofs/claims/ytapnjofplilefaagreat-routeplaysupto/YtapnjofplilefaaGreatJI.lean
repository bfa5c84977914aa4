/- Whole numbers in memory. -/
import Derived.Test.YtapnjofplilefaaGreatMRw
namespace Go.Proofs.YtapnjofplilefaaGreat
open Go.RowKit

/-- Whole numbers as records of one cell. -/
def encJ : Rc.Enc Int := ⟨1, fun x => [.int .i64 x], fun _ => rfl, fun _ u hu => by simp at hu; subst hu; rfl, by decide⟩
theorem ints_at {w : World} {ao : Option Addr} {L : List Int} (h : encJ.Mem w ao L) (j : Nat) (hj : j < L.length) : ∃ b off, ao = some ⟨b, off, none⟩ ∧ w.cell? ⟨b, off + j, none⟩ = some (.int .i64 (L.getD j 0)) := by
  obtain ⟨b, off, e, g⟩ := Rc.Mem.at h j hj
  rw [List.getD_eq_getElem?_getD, List.getElem?_eq_getElem hj]
  have := g 0 _ rfl
  have e1 : encJ.n = 1 := rfl
  rw [e1, Nat.mul_one] at this
  exact ⟨b, off, e, this⟩

end Go.Proofs.YtapnjofplilefaaGreat
