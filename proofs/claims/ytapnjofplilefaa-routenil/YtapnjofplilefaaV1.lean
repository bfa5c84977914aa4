/- Arguments: an item that came in. -/
import Derived.Test.YtapnjofplilefaaC1
import Derived.ProofKit
import Derived.OpenShut
import Derived.Deep.DeepHandedRow
namespace Go.Proofs.Ytapnjofplilefaa
open Go.ChangeShapes Go.WideShapes Go.ChangeAt Go.RowKit

set_option maxRecDepth 100000 in
theorem it_in {H : Type} {enc : TypeId × Value → H} {W : World} {fuel base : Nat} {spare : Nat → Bool} {held : Bool} {cs : List Value} {x : DataW H × List MemPlace}
    (hf : DataW.trod enc Try.prog W base spare held fuel 52 cs = some x) : ∃ t : It, cs = (itc t).toList := by
  have c5 : Try.prog.cellsOf 52 = 5 := by kernel_rfl
  have c1 : Try.prog.cellsOf 2 = 1 := by kernel_rfl
  have ci : Try.prog.cellsOf 3 = 1 := by kernel_rfl
  have ck : Try.prog.cellsOf 50 = 1 := by kernel_rfl
  have cb : Try.prog.cellsOf 9 = 1 := by kernel_rfl
  obtain ⟨xs, k, -, hx, hcl, hxl, hfs⟩ := DataW.trod_struct Try.underlying52 hf
  rw [c5] at hcl
  match xs, hxl, cs, hcl with
  | [y0, y1, y2, y3, y4], _, [v0, v1, v2, v3, v4], _ =>
    have g0 := hfs 0 _ rfl
    have g1 := hfs 1 _ rfl
    have g2 := hfs 2 _ rfl
    have g3 := hfs 3 _ rfl
    have g4 := hfs 4 _ rfl
    simp [c1, ci, ck, cb] at g0 g1 g2 g3 g4
    obtain ⟨a0, e0, z0, w0⟩ := DataW.trod_int Try.underlying50 g0
    obtain ⟨a1, e1, z1, w1⟩ := DataW.trod_string Try.underlying9 g1
    obtain ⟨a2, e2, z2, w2⟩ := DataW.trod_int Try.underlying2 g2
    obtain ⟨a3, e3, z3, w3⟩ := DataW.trod_int Try.underlying2 g3
    obtain ⟨a4, e4, z4, w4⟩ := DataW.trod_int Try.underlying3 g4
    injection e0 with e0
    injection e1 with e1
    injection e2 with e2
    injection e3 with e3
    injection e4 with e4
    exact ⟨⟨a0, a1, a2, a3, a4⟩, by rw [e0, e1, e2, e3, e4]⟩

set_option maxRecDepth 100000 in
theorem it_arg {H : Type} {enc : TypeId × Value → H} {W : World} {base : Nat} {r : Reach} {b0 : Nat} {spare : Nat → Bool} {held : Bool} {v : Value} {d : DataW H} {p : List MemPlace} (hv : Value.okWide Try.prog W r b0 52 v)
    (h : DataW.Trod enc Try.prog W base spare held 52 v d p) : ∃ t : It, v = itv t := by
  obtain ⟨cs, rfl, -⟩ := okWide_struct Try.underlying52 hv
  obtain ⟨fuel, hf⟩ := h
  obtain ⟨t, e⟩ := it_in hf
  refine ⟨t, ?_⟩
  have : cs = itc t := Array.toList_inj.1 e
  rw [this]

end Go.Proofs.Ytapnjofplilefaa
