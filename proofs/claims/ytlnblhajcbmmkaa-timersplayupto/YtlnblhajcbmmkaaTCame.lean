/- A timer that came in. -/
import Derived.Test.YtlnblhajcbmmkaaTMap
import Derived.Test.YtlnblhajcbmmkaaRows
import Derived.Deep.Slices
import Derived.OpenShut
import Derived.SizedLaws
import Derived.ProofKit
import Derived.ChangeMaps5
import Derived.ChangeArms
namespace Go.Proofs.Ytlnblhajcbmmkaa
open Go.ChangeShapes Go.WideShapes Go.ChangeAt Go.RowKit Go.Deep

set_option maxRecDepth 100000 in
theorem timer_in {H : Type} {enc : TypeId × Value → H} {W : World} {fuel base : Nat} {spare : Nat → Bool} {held : Bool} {cs : List Value} {x : DataW H × List MemPlace}
    (hf : DataW.trod enc Try.prog W base spare held fuel 35 cs = some x) :
    ∃ t : Tm, cs = (tc t).toList ∧ (Lit.int .i64 t.at_).wf = true ∧ (Lit.int .i64 t.start).wf = true ∧ (Lit.int .i64 t.stop).wf = true ∧ t.key.size ≤ maxLen ∧
      x.1 = .agg [.lit (.int .i64 t.at_), .lit (.string t.key.data.toList), .agg [.lit (.int .i64 t.start), .lit (.int .i64 t.stop)]] := by
  have c4 : Try.prog.cellsOf 35 = 4 := by kernel_rfl
  have c2 : Try.prog.cellsOf 33 = 2 := by kernel_rfl
  have c1 : Try.prog.cellsOf 2 = 1 := by kernel_rfl
  have cS : Try.prog.cellsOf 9 = 1 := by kernel_rfl
  obtain ⟨xs, k, -, hx, hcl, hxl, hfs⟩ := DataW.trod_struct Try.underlying35 hf
  rw [c4] at hcl
  match xs, hxl, cs, hcl with
  | [y0, y1, y2], _, [v0, v1, v2, v3], _ =>
    have g0 := hfs 0 _ rfl
    have g1 := hfs 1 _ rfl
    have g2 := hfs 2 _ rfl
    simp [c1, cS, c2] at g0 g1 g2
    obtain ⟨a0, e0, z0, w0⟩ := DataW.trod_int Try.underlying2 g0
    obtain ⟨s1, e1, z1, w1⟩ := DataW.trod_string Try.underlying9 g1
    obtain ⟨xs2, k2, -, hx2, -, hxl2, hf2⟩ := DataW.trod_struct Try.underlying33 g2
    match xs2, hxl2 with
    | [u0, u1], _ =>
      have m0 := hf2 0 _ rfl
      have m1 := hf2 1 _ rfl
      simp [c1] at m0 m1
      obtain ⟨a2, e2, z2, w2⟩ := DataW.trod_int Try.underlying2 m0
      obtain ⟨a3, e3, z3, w3⟩ := DataW.trod_int Try.underlying2 m1
      injection e0 with e0
      injection e1 with e1
      injection e2 with e2
      injection e3 with e3
      refine ⟨⟨a0, s1, a2, a3⟩, by rw [e0, e1, e2, e3], w0, w2, w3, w1, ?_⟩
      rw [hx]
      simp [z0, z1, z2, z3, hx2]

set_option maxRecDepth 100000 in
theorem timer_arg {H : Type} {enc : TypeId × Value → H} {W : World} {base : Nat} {r : Reach} {b0 : Nat} {spare : Nat → Bool} {held : Bool} {v : Value} {d : DataW H} {p : List MemPlace} (hv : Value.okWide Try.prog W r b0 35 v)
    (h : DataW.Trod enc Try.prog W base spare held 35 v d p) : ∃ t : Tm, v = tv t ∧ (Lit.int .i64 t.at_).wf = true ∧ (Lit.int .i64 t.start).wf = true ∧ (Lit.int .i64 t.stop).wf = true ∧ t.key.size ≤ maxLen ∧
      d = .agg [.lit (.int .i64 t.at_), .lit (.string t.key.data.toList), .agg [.lit (.int .i64 t.start), .lit (.int .i64 t.stop)]] := by
  obtain ⟨cs, rfl, -⟩ := okWide_struct Try.underlying35 hv
  obtain ⟨fuel, hf⟩ := h
  obtain ⟨t, e, h1, h2, h3, h4, h5⟩ := timer_in hf
  refine ⟨t, ?_, h1, h2, h3, h4, h5⟩
  have : cs = tc t := Array.toList_inj.1 e
  rw [this]

end Go.Proofs.Ytlnblhajcbmmkaa
