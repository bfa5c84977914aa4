/- A list of whole numbers that came in. -/
import Derived.Test.YtegiinnhknfjjaaICame
import Derived.Test.YtegiinnhknfjjaaIWt
namespace Go.Proofs.Ytegiinnhknfjjaa.IM
open Go.ChangeShapes Go.WideShapes Go.ChangeAt Go.RowKit Go.Deep

set_option maxRecDepth 100000 in
theorem ints_in {H : Type} {enc : TypeId × Value → H} {W : World} {fuel base : Nat} {spare : Nat → Bool} {held : Bool} {v : Value} {x : DataW H × List MemPlace}
    (hf : DataW.trod enc Try.prog W base spare held fuel 44 [v] = some x) :
    ∃ (ao : Option Addr) (cap : Nat) (l : List Int), v = .slice ao l.length cap ∧ SegI W ao l := by
  rcases Go.Deep.open_slice Try.underlying44 hf with ⟨hcs, _⟩ | ⟨a, len, cap, m, n, D, Pl, hcs, _, hl, _, hmm, hx, hel⟩
  · injection hcs with hcs
    exact ⟨none, 0, [], hcs, fun j hj => absurd hj (by simp)⟩
  · injection hcs with hcs
    have hlm : len ≤ m := by rw [hmm]; split <;> omega
    have c1 : Try.prog.cellsOf 3 = 1 := by kernel_rfl
    have each : ∀ i, i < len → ∃ z : Int, W.cell? (a.add i) = some (.int .i64 z) := fun i hi => by
      obtain ⟨cs', h1, h2⟩ := hel i (by omega)
      rw [c1] at h1
      obtain ⟨_, hlc, hcell⟩ := World.cells?_some h1
      match cs', hlc with
      | [v0], _ =>
        have e0 := hcell 0 (by omega)
        rw [Go.Deep.add_add] at e0
        simp at e0
        obtain ⟨z0, q0, _, _⟩ := DataW.trod_int Try.underlying3 h2
        injection q0 with q0
        exact ⟨z0, by rw [e0, q0]⟩
    have each' : ∀ i, ∃ z : Int, i < len → W.cell? (a.add i) = some (.int .i64 z) := fun i => by
      by_cases hi : i < len
      · obtain ⟨z, hz⟩ := each i hi; exact ⟨z, fun _ => hz⟩
      · exact ⟨0, fun h => absurd h hi⟩
    obtain ⟨f, hf'⟩ := Classical.axiomOfChoice each'
    refine ⟨some a, cap, (List.range len).map f, by simpa using hcs, fun j hj => ?_⟩
    have hj' : j < len := by simpa using hj
    have hs : a.spot = none := cell_spot' (hf' 0 (by omega))
    have := hf' j hj'
    obtain ⟨b, o, sp⟩ := a
    simp at hs; subst hs
    rw [Addr.add_lit] at this
    exact ⟨b, o, rfl, by simpa using this⟩

end Go.Proofs.Ytegiinnhknfjjaa.IM
