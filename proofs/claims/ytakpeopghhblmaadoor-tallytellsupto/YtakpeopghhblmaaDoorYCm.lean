/- What came in: a tally, tallies, numbers. -/
import Derived.Test.YtakpeopghhblmaaDoorYW
import Derived.Test.YtakpeopghhblmaaDoorRows
import Derived.Deep.Slices
import Derived.OpenShut
import Derived.SizedLaws
import Derived.ProofKit
import Derived.ChangeMaps5
import Derived.ChangeArms
namespace Go.Proofs.YtakpeopghhblmaaDoor
open Go.ChangeShapes Go.WideShapes Go.ChangeAt Go.RowKit Go.Deep

theorem i64_wf {x : Int} (h : (Lit.int .i64 x).wf = true) : I64 x := by
  have := bounds_i64 h
  unfold I64
  omega

set_option maxRecDepth 100000 in
theorem tally_in {H : Type} {enc : TypeId × Value → H} {W : World} {fuel base : Nat} {spare : Nat → Bool} {held : Bool} {cs : List Value} {x : DataW H × List MemPlace}
    (hf : DataW.trod enc Tryd.prog W base spare held fuel 24 cs = some x) : ∃ t : Tl, cs = (tlc t).toList ∧ t.Ok := by
  have c4 : Tryd.prog.cellsOf 24 = 4 := by kernel_rfl
  have c1 : Tryd.prog.cellsOf 2 = 1 := by kernel_rfl
  obtain ⟨xs, k, -, hx, hcl, hxl, hfs⟩ := DataW.trod_struct Tryd.underlying24 hf
  rw [c4] at hcl
  match xs, hxl, cs, hcl with
  | [y0, y1, y2, y3], _, [v0, v1, v2, v3], _ =>
    have g0 := hfs 0 _ rfl
    have g1 := hfs 1 _ rfl
    have g2 := hfs 2 _ rfl
    have g3 := hfs 3 _ rfl
    simp [c1] at g0 g1 g2 g3
    obtain ⟨a0, e0, z0, w0⟩ := DataW.trod_int Tryd.underlying2 g0
    obtain ⟨a1, e1, z1, w1⟩ := DataW.trod_int Tryd.underlying2 g1
    obtain ⟨a2, e2, z2, w2⟩ := DataW.trod_int Tryd.underlying2 g2
    obtain ⟨a3, e3, z3, w3⟩ := DataW.trod_int Tryd.underlying2 g3
    injection e0 with e0
    injection e1 with e1
    injection e2 with e2
    injection e3 with e3
    exact ⟨⟨a0, a1, a2, a3⟩, by rw [e0, e1, e2, e3], ⟨i64_wf w0, i64_wf w1, i64_wf w2, i64_wf w3⟩⟩

set_option maxRecDepth 100000 in
theorem tally_arg {H : Type} {enc : TypeId × Value → H} {W : World} {base : Nat} {r : Reach} {b0 : Nat} {spare : Nat → Bool} {held : Bool} {v : Value} {d : DataW H} {p : List MemPlace} (hv : Value.okWide Tryd.prog W r b0 24 v)
    (h : DataW.Trod enc Tryd.prog W base spare held 24 v d p) : ∃ t : Tl, v = tlv t ∧ t.Ok := by
  obtain ⟨cs, rfl, -⟩ := okWide_struct Tryd.underlying24 hv
  obtain ⟨fuel, hf⟩ := h
  obtain ⟨t, e, h1⟩ := tally_in hf
  refine ⟨t, ?_, h1⟩
  have : cs = tlc t := Array.toList_inj.1 e
  rw [this]

end Go.Proofs.YtakpeopghhblmaaDoor
