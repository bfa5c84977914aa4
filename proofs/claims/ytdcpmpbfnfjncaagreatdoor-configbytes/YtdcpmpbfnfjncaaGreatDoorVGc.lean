/- Arguments: a job that came in. -/
import Derived.Test.YtdcpmpbfnfjncaaGreatDoorVCf
import Derived.Test.YtdcpmpbfnfjncaaGreatDoorYZ
import Derived.ProofKit
import Derived.OpenShut
import Derived.Deep.DeepHandedRow
namespace Go.Proofs.YtdcpmpbfnfjncaaGreatDoor
open Go.ChangeShapes Go.WideShapes Go.ChangeAt Go.RowKit

theorem i64_wfc {x : Int} (h : (Lit.int .i64 x).wf = true) : I64 x := by
  have := bounds_i64 h
  unfold I64
  omega


set_option maxRecDepth 100000 in
theorem cf_in {H : Type} {enc : TypeId × Value → H} {W : World} {fuel base : Nat} {spare : Nat → Bool} {held : Bool} {cs : List Value} {x : DataW H × List MemPlace}
    (hf : DataW.trod enc Tryz.prog W base spare held fuel 24 cs = some x) : ∃ t : Cf, cs = (cfc t).toList ∧ I64 t.lt ∧ I64 t.ea := by
  have c10 : Tryz.prog.cellsOf 24 = 10 := by kernel_rfl
  have c1 : Tryz.prog.cellsOf 2 = 1 := by kernel_rfl
  have ci : Tryz.prog.cellsOf 3 = 1 := by kernel_rfl
  have ck : Tryz.prog.cellsOf 22 = 1 := by kernel_rfl
  have cb : Tryz.prog.cellsOf 4 = 1 := by kernel_rfl
  obtain ⟨xs, k, -, hx, hcl, hxl, hfs⟩ := DataW.trod_struct Tryz.underlying24 hf
  rw [c10] at hcl
  match xs, hxl, cs, hcl with
  | [y0, y1, y2, y3, y4, y5, y6, y7, y8, y9], _, [v0, v1, v2, v3, v4, v5, v6, v7, v8, v9], _ =>
    have g0 := hfs 0 _ rfl
    have g1 := hfs 1 _ rfl
    have g2 := hfs 2 _ rfl
    have g3 := hfs 3 _ rfl
    have g4 := hfs 4 _ rfl
    have g5 := hfs 5 _ rfl
    have g6 := hfs 6 _ rfl
    have g7 := hfs 7 _ rfl
    have g8 := hfs 8 _ rfl
    have g9 := hfs 9 _ rfl
    simp [c1, ci, ck, cb] at g0 g1 g2 g3 g4 g5 g6 g7 g8 g9
    obtain ⟨a0, e0, z0, w0⟩ := DataW.trod_int Tryz.underlying3 g0
    obtain ⟨a1, e1, z1, w1⟩ := DataW.trod_int Tryz.underlying3 g1
    obtain ⟨a2, e2, z2, w2⟩ := DataW.trod_int Tryz.underlying22 g2
    obtain ⟨a3, e3, z3, w3⟩ := DataW.trod_int Tryz.underlying2 g3
    obtain ⟨a4, e4, z4, w4⟩ := DataW.trod_int Tryz.underlying2 g4
    obtain ⟨a5, e5, z5, w5⟩ := DataW.trod_int Tryz.underlying2 g5
    obtain ⟨a6, e6, z6, w6⟩ := DataW.trod_int Tryz.underlying2 g6
    obtain ⟨a7, e7, z7, w7⟩ := DataW.trod_int Tryz.underlying2 g7
    obtain ⟨a8, e8, z8, w8⟩ := DataW.trod_int Tryz.underlying3 g8
    obtain ⟨a9, e9, z9⟩ := DataW.trod_bool Tryz.underlying4 g9
    injection e0 with e0
    injection e1 with e1
    injection e2 with e2
    injection e3 with e3
    injection e4 with e4
    injection e5 with e5
    injection e6 with e6
    injection e7 with e7
    injection e8 with e8
    injection e9 with e9
    exact ⟨⟨a0, a1, a2, a3, a4, a5, a6, a7, a8, a9⟩, by rw [e0, e1, e2, e3, e4, e5, e6, e7, e8, e9], i64_wfc w7, i64_wfc w8⟩

set_option maxRecDepth 100000 in
theorem cf_arg {H : Type} {enc : TypeId × Value → H} {W : World} {base : Nat} {r : Reach} {b0 : Nat} {spare : Nat → Bool} {held : Bool} {v : Value} {d : DataW H} {p : List MemPlace} (hv : Value.okWide Tryz.prog W r b0 24 v)
    (h : DataW.Trod enc Tryz.prog W base spare held 24 v d p) : ∃ t : Cf, v = cfv t ∧ I64 t.lt ∧ I64 t.ea := by
  obtain ⟨cs, rfl, -⟩ := okWide_struct Tryz.underlying24 hv
  obtain ⟨fuel, hf⟩ := h
  obtain ⟨t, e, h1⟩ := cf_in hf
  refine ⟨t, ?_, h1⟩
  have : cs = cfc t := Array.toList_inj.1 e
  rw [this]

end Go.Proofs.YtdcpmpbfnfjncaaGreatDoor
