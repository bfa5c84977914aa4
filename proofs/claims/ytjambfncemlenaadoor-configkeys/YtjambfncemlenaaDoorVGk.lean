/- Arguments: a key's state that came in. -/
import Derived.Test.YtjambfncemlenaaDoorPG0
import Derived.Test.YtjambfncemlenaaDoorCK
namespace Go.Proofs.YtjambfncemlenaaDoor
open Go.ChangeShapes Go.WideShapes Go.ChangeAt Go.RowKit Go.Deep

set_option maxRecDepth 100000 in
theorem ks_in {H : Type} {enc : TypeId × Value → H} {W : World} {fuel base : Nat} {spare : Nat → Bool} {held : Bool} {cs : List Value} {x : DataW H × List MemPlace}
    (hf : DataW.trod enc Tryd.prog W base spare held fuel 55 cs = some x) (hw : ∀ n ∈ x.1.weights Tryd.prog 55, n ≤ reachBytes) :
    ∃ (k : Ks) (wo : Option Addr) (cap : Nat), cs = (ksc k wo cap).toList ∧ encW.Sl W wo cap k.wi ∧ k.wi.length ≤ 1954687338268 := by
  have c3 : Tryd.prog.cellsOf 55 = 3 := by kernel_rfl
  have c1 : Tryd.prog.cellsOf 2 = 1 := by kernel_rfl
  have cs1 : Tryd.prog.cellsOf 9 = 1 := by kernel_rfl
  have cw : Tryd.prog.cellsOf 53 = 1 := by kernel_rfl
  obtain ⟨xs, k, -, hx, hcl, hxl, hfs⟩ := DataW.trod_struct Tryd.underlying55 hf
  rw [c3] at hcl
  match xs, hxl, cs, hcl with
  | [y0, y1, y2], _, [v0, v1, v2], _ =>
    have g0 := hfs 0 _ rfl
    have g1 := hfs 1 _ rfl
    have g2 := hfs 2 _ rfl
    simp [c1, cs1, cw] at g0 g1 g2
    obtain ⟨a0, e0, z0, w0⟩ := DataW.trod_string Tryd.underlying9 g0
    obtain ⟨a1, e1, z1, w1⟩ := DataW.trod_int Tryd.underlying2 g1
    obtain ⟨wo, cap, l, e2, hsl, -, hln⟩ := wins_in g2 (fun n hn => hw n (by
      rw [hx]
      simp [DataW.weights, DataW.weightsEach, Tryd.underlying55]
      first | exact hn | exact .inr hn | exact .inr (.inr hn) | exact .inl hn | simp [hn]))
    injection e0 with e0
    injection e1 with e1
    exact ⟨⟨a0, a1, l⟩, wo, cap, by rw [e0, e1, e2], hsl, hln⟩

set_option maxRecDepth 100000 in
theorem ks_arg {H : Type} {enc : TypeId × Value → H} {W : World} {base : Nat} {r : Reach} {b0 : Nat} {spare : Nat → Bool} {held : Bool} {v : Value} {d : DataW H} {p : List MemPlace} (hv : Value.okWide Tryd.prog W r b0 55 v)
    (h : DataW.Trod enc Tryd.prog W base spare held 55 v d p) (hw : ∀ n ∈ d.weights Tryd.prog 55, n ≤ reachBytes) :
    ∃ (k : Ks) (wo : Option Addr) (cap : Nat), v = .agg (ksc k wo cap) ∧ encW.Sl W wo cap k.wi ∧ k.wi.length ≤ 1954687338268 := by
  obtain ⟨cs, rfl, -⟩ := okWide_struct Tryd.underlying55 hv
  obtain ⟨fuel, hf⟩ := h
  obtain ⟨k, wo, cap, e, h1, h2⟩ := ks_in hf hw
  refine ⟨k, wo, cap, ?_, h1, h2⟩
  have : cs = ksc k wo cap := Array.toList_inj.1 e
  rw [this]

end Go.Proofs.YtjambfncemlenaaDoor
