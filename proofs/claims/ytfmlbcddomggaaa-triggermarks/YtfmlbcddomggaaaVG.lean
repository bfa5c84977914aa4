/- What came in: a window, a job, a span, two and three numbers. -/
import Derived.Test.YtfmlbcddomggaaaPG0
import Derived.Test.YtfmlbcddomggaaaVA
namespace Go.Proofs.Ytfmlbcddomggaaa
open Go.ChangeShapes Go.WideShapes Go.ChangeAt Go.RowKit Go.Deep

theorem Wn.Ok.of {x : Wn} (h : I64 x.a ∧ I64 x.b ∧ I64 x.h ∧ x.t.Ok ∧ I64 x.n ∧ I64 x.p) : x.Ok := ⟨h.1, h.2.1, h.2.2.1, h.2.2.2.1, h.2.2.2.2.1, h.2.2.2.2.2⟩

set_option maxRecDepth 100000 in
theorem win_arg {H : Type} {enc : TypeId × Value → H} {W : World} {base : Nat} {r : Reach} {b0 : Nat} {spare : Nat → Bool} {held : Bool} {v : Value} {d : DataW H} {p : List MemPlace} (hv : Value.okWide Try.prog W r b0 30 v)
    (h : DataW.Trod enc Try.prog W base spare held 30 v d p) : ∃ t : Wn, v = wnv t ∧ t.Ok := by
  obtain ⟨cs, rfl, -⟩ := okWide_struct Try.underlying30 hv
  obtain ⟨fuel, hf⟩ := h
  obtain ⟨t, e, h1⟩ := win_in hf
  refine ⟨t, ?_, Wn.Ok.of h1⟩
  have : cs = wnc t := Array.toList_inj.1 e
  rw [this]

set_option maxRecDepth 100000 in
theorem span_arg {H : Type} {enc : TypeId × Value → H} {W : World} {base : Nat} {r : Reach} {b0 : Nat} {spare : Nat → Bool} {held : Bool} {v : Value} {d : DataW H} {p : List MemPlace} (hv : Value.okWide Try.prog W r b0 26 v)
    (h : DataW.Trod enc Try.prog W base spare held 26 v d p) : ∃ t : Sp, v = spv t ∧ I64 t.a ∧ I64 t.b := by
  obtain ⟨cs, rfl, -⟩ := okWide_struct Try.underlying26 hv
  obtain ⟨fuel, hf⟩ := h
  obtain ⟨t, e, h1⟩ := span_in hf
  refine ⟨t, ?_, h1⟩
  have : cs = spc t := Array.toList_inj.1 e
  rw [this]

set_option maxRecDepth 100000 in
theorem cf_in {H : Type} {enc : TypeId × Value → H} {W : World} {fuel base : Nat} {spare : Nat → Bool} {held : Bool} {cs : List Value} {x : DataW H × List MemPlace}
    (hf : DataW.trod enc Try.prog W base spare held fuel 24 cs = some x) : ∃ t : Cf, cs = (cfc t).toList ∧ I64 t.lt ∧ I64 t.ea := by
  have c10 : Try.prog.cellsOf 24 = 10 := by kernel_rfl
  have c1 : Try.prog.cellsOf 2 = 1 := by kernel_rfl
  have ci : Try.prog.cellsOf 3 = 1 := by kernel_rfl
  have ck : Try.prog.cellsOf 22 = 1 := by kernel_rfl
  have cb : Try.prog.cellsOf 4 = 1 := by kernel_rfl
  obtain ⟨xs, k, -, hx, hcl, hxl, hfs⟩ := DataW.trod_struct Try.underlying24 hf
  rw [c10] at hcl
  match xs, hxl, cs, hcl with
  | [y0, y1, y2, y3, y4, y5, y6, y7, y8, y9], _, [v0, v1, v2, v3, v4, v5, v6, v7, v8, v9], _ =>
    have g0 := hfs 0 _ rfl
    have g1 := hfs 1 _ rfl
    have g2 := hfs 2 _ rfl
    have g3 := hfs 3 _ rfl
    have g4 := hfs 4 _ rfl
    have g5 := hfs 5 _ rfl
    have g6 := hfs 6 _ rfl
    have g7 := hfs 7 _ rfl
    have g8 := hfs 8 _ rfl
    have g9 := hfs 9 _ rfl
    simp [c1, ci, ck, cb] at g0 g1 g2 g3 g4 g5 g6 g7 g8 g9
    obtain ⟨a0, e0, z0, w0⟩ := DataW.trod_int Try.underlying3 g0
    obtain ⟨a1, e1, z1, w1⟩ := DataW.trod_int Try.underlying3 g1
    obtain ⟨a2, e2, z2, w2⟩ := DataW.trod_int Try.underlying22 g2
    obtain ⟨a3, e3, z3, w3⟩ := DataW.trod_int Try.underlying2 g3
    obtain ⟨a4, e4, z4, w4⟩ := DataW.trod_int Try.underlying2 g4
    obtain ⟨a5, e5, z5, w5⟩ := DataW.trod_int Try.underlying2 g5
    obtain ⟨a6, e6, z6, w6⟩ := DataW.trod_int Try.underlying2 g6
    obtain ⟨a7, e7, z7, w7⟩ := DataW.trod_int Try.underlying2 g7
    obtain ⟨a8, e8, z8, w8⟩ := DataW.trod_int Try.underlying3 g8
    obtain ⟨a9, e9, z9⟩ := DataW.trod_bool Try.underlying4 g9
    injection e0 with e0
    injection e1 with e1
    injection e2 with e2
    injection e3 with e3
    injection e4 with e4
    injection e5 with e5
    injection e6 with e6
    injection e7 with e7
    injection e8 with e8
    injection e9 with e9
    exact ⟨⟨a0, a1, a2, a3, a4, a5, a6, a7, a8, a9⟩, by rw [e0, e1, e2, e3, e4, e5, e6, e7, e8, e9], i64_wf w7, i64_wf w8⟩

set_option maxRecDepth 100000 in
theorem cf_arg {H : Type} {enc : TypeId × Value → H} {W : World} {base : Nat} {r : Reach} {b0 : Nat} {spare : Nat → Bool} {held : Bool} {v : Value} {d : DataW H} {p : List MemPlace} (hv : Value.okWide Try.prog W r b0 24 v)
    (h : DataW.Trod enc Try.prog W base spare held 24 v d p) : ∃ t : Cf, v = cfv t ∧ I64 t.lt ∧ I64 t.ea := by
  obtain ⟨cs, rfl, -⟩ := okWide_struct Try.underlying24 hv
  obtain ⟨fuel, hf⟩ := h
  obtain ⟨t, e, h1⟩ := cf_in hf
  refine ⟨t, ?_, h1⟩
  have : cs = cfc t := Array.toList_inj.1 e
  rw [this]

theorem okWide_arr {P : Program} {w : World} {r : Reach} {b0 : Nat} {t e : TypeId} {v : Value} {n : Nat} (ht : P.underlying t = some (.array n e)) (h : Value.okWide P w r b0 t v) : ∃ cs, v = .agg cs ∧ cs.size = P.cellsOf t := by
  simp only [Value.okWide, ht] at h
  obtain ⟨cs, h1, h2, _⟩ := h
  exact ⟨cs, h1, h2⟩

set_option maxRecDepth 100000 in
theorem three_arg {H : Type} {enc : TypeId × Value → H} {W : World} {base : Nat} {r : Reach} {b0 : Nat} {spare : Nat → Bool} {held : Bool} {v : Value} {d : DataW H} {p : List MemPlace} (hv : Value.okWide Try.prog W r b0 31 v)
    (h : DataW.Trod enc Try.prog W base spare held 31 v d p) : ∃ x y z : Int, v = .agg #[.int .i64 x, .int .i64 y, .int .i64 z] ∧ I64 x ∧ I64 y ∧ I64 z := by
  have hC : Try.prog.cellsOf 31 = 3 := by kernel_rfl
  have hE : Try.prog.cellsOf 2 = 1 := by kernel_rfl
  obtain ⟨cs, rfl, hsz⟩ := okWide_arr Try.underlying31 hv
  obtain ⟨c0, c1, c2, rfl⟩ : ∃ c0 c1 c2, cs = #[c0, c1, c2] := by
    have h2 := hsz.trans hC
    refine ⟨cs[0], cs[1], cs[2], ?_⟩
    apply Array.ext
    · simpa using h2
    · intro i h3 h4
      have : i = 0 ∨ i = 1 ∨ i = 2 := by omega
      rcases this with rfl | rfl | rfl <;> rfl
  obtain ⟨fuel, hf⟩ := h
  obtain ⟨xs, m, _, _, _, hl, hall⟩ := DataW.trod_array Try.underlying31 hf
  match xs, hl with
  | [y0, y1, y2], _ =>
    have h0 := hall 0 (by omega)
    have h1 := hall 1 (by omega)
    have h2 := hall 2 (by omega)
    simp [Value.cells, hE] at h0 h1 h2
    obtain ⟨a, ea, _, wa⟩ := DataW.trod_int Try.underlying2 h0
    obtain ⟨b, eb, _, wb⟩ := DataW.trod_int Try.underlying2 h1
    obtain ⟨c, ec, _, wc⟩ := DataW.trod_int Try.underlying2 h2
    refine ⟨a, b, c, ?_, i64_wf wa, i64_wf wb, i64_wf wc⟩
    simp at ea eb ec
    rw [ea, eb, ec]

set_option maxRecDepth 100000 in
theorem two_arg {H : Type} {enc : TypeId × Value → H} {W : World} {base : Nat} {r : Reach} {b0 : Nat} {spare : Nat → Bool} {held : Bool} {v : Value} {d : DataW H} {p : List MemPlace} (hv : Value.okWide Try.prog W r b0 51 v)
    (h : DataW.Trod enc Try.prog W base spare held 51 v d p) : ∃ x y : Int, v = .agg #[.int .i64 x, .int .i64 y] ∧ I64 x ∧ I64 y := by
  have hC : Try.prog.cellsOf 51 = 2 := by kernel_rfl
  have hE : Try.prog.cellsOf 2 = 1 := by kernel_rfl
  obtain ⟨cs, rfl, hsz⟩ := okWide_arr Try.underlying51 hv
  obtain ⟨c0, c1, rfl⟩ : ∃ c0 c1, cs = #[c0, c1] := by
    have h2 := hsz.trans hC
    refine ⟨cs[0], cs[1], ?_⟩
    apply Array.ext
    · simpa using h2
    · intro i h3 h4
      have : i = 0 ∨ i = 1 := by omega
      rcases this with rfl | rfl <;> rfl
  obtain ⟨fuel, hf⟩ := h
  obtain ⟨xs, m, _, _, _, hl, hall⟩ := DataW.trod_array Try.underlying51 hf
  match xs, hl with
  | [y0, y1], _ =>
    have h0 := hall 0 (by omega)
    have h1 := hall 1 (by omega)
    simp [Value.cells, hE] at h0 h1
    obtain ⟨a, ea, _, wa⟩ := DataW.trod_int Try.underlying2 h0
    obtain ⟨b, eb, _, wb⟩ := DataW.trod_int Try.underlying2 h1
    refine ⟨a, b, ?_, i64_wf wa, i64_wf wb⟩
    simp at ea eb
    rw [ea, eb]

end Go.Proofs.Ytfmlbcddomggaaa
