/- Arguments: a pane, panes that came in, with the sizes of their keys. What the rows of panes list: the table of tens, the errors of the library and the words of kinds lie in memory; a world for the witness. -/
import Derived.Test.YtamfcmmhmfhhkaaGreatDoorG14
import Derived.ProofKit
import Derived.OpenShut
import Derived.SizedLaws
import Derived.ChangeMaps5
import Derived.ChangeArms
import Derived.Deep.Slices
import Derived.Deep.DeepHandedRow
import Derived.Test.YtamfcmmhmfhhkaaGreatDoorCards
import Derived.Test.YtamfcmmhmfhhkaaGreatDoorTie
import Derived.Lib.LaidTab
import Derived.Stop.LaidErr
import Derived.Shelf.Vars
namespace Go.Proofs.YtamfcmmhmfhhkaaGreatDoor
open Go.ChangeShapes Go.WideShapes Go.ChangeAt Go.RowKit Go.Deep

theorem weights_allR {H : Type} {P : Program} {e : TypeId} : ∀ (l : List (DataW H)) (d : DataW H), d ∈ l → ∀ n ∈ d.weights P e, n ∈ DataW.weightsAll P e l
  | x :: r, d, hd, n, hn => by
    simp only [DataW.weightsAll, List.mem_append]
    rcases List.mem_cons.1 hd with rfl | hd
    · exact .inl hn
    · exact .inr (weights_allR r d hd n hn)

set_option maxRecDepth 100000 in
theorem tallyR_in {H : Type} {enc : TypeId × Value → H} {W : World} {fuel base : Nat} {spare : Nat → Bool} {held : Bool} {cs : List Value} {x : DataW H × List MemPlace}
    (hf : DataW.trod enc Tryz.prog W base spare held fuel 38 cs = some x) : ∃ t : Tl, cs = (tlc t).toList := by
  have c4 : Tryz.prog.cellsOf 38 = 4 := by kernel_rfl
  have c1 : Tryz.prog.cellsOf 2 = 1 := by kernel_rfl
  obtain ⟨xs, k, -, hx, hcl, hxl, hfs⟩ := DataW.trod_struct Tryz.underlying38 hf
  rw [c4] at hcl
  match xs, hxl, cs, hcl with
  | [y0, y1, y2, y3], _, [v0, v1, v2, v3], _ =>
    have g0 := hfs 0 _ rfl
    have g1 := hfs 1 _ rfl
    have g2 := hfs 2 _ rfl
    have g3 := hfs 3 _ rfl
    simp [c1] at g0 g1 g2 g3
    obtain ⟨a0, e0, z0, w0⟩ := DataW.trod_int Tryz.underlying2 g0
    obtain ⟨a1, e1, z1, w1⟩ := DataW.trod_int Tryz.underlying2 g1
    obtain ⟨a2, e2, z2, w2⟩ := DataW.trod_int Tryz.underlying2 g2
    obtain ⟨a3, e3, z3, w3⟩ := DataW.trod_int Tryz.underlying2 g3
    injection e0 with e0
    injection e1 with e1
    injection e2 with e2
    injection e3 with e3
    exact ⟨⟨a0, a1, a2, a3⟩, by rw [e0, e1, e2, e3]⟩
set_option maxRecDepth 100000 in
theorem spanR_in {H : Type} {enc : TypeId × Value → H} {W : World} {fuel base : Nat} {spare : Nat → Bool} {held : Bool} {cs : List Value} {x : DataW H × List MemPlace}
    (hf : DataW.trod enc Tryz.prog W base spare held fuel 35 cs = some x) : ∃ a b : Int, cs = [.int .i64 a, .int .i64 b] := by
  have c4 : Tryz.prog.cellsOf 35 = 2 := by kernel_rfl
  have c1 : Tryz.prog.cellsOf 2 = 1 := by kernel_rfl
  obtain ⟨xs, k, -, hx, hcl, hxl, hfs⟩ := DataW.trod_struct Tryz.underlying35 hf
  rw [c4] at hcl
  match xs, hxl, cs, hcl with
  | [y0, y1], _, [v0, v1], _ =>
    have g0 := hfs 0 _ rfl
    have g1 := hfs 1 _ rfl
    simp [c1] at g0 g1
    obtain ⟨a0, e0, z0, w0⟩ := DataW.trod_int Tryz.underlying2 g0
    obtain ⟨a1, e1, z1, w1⟩ := DataW.trod_int Tryz.underlying2 g1
    injection e0 with e0
    injection e1 with e1
    exact ⟨a0, a1, by rw [e0, e1]⟩
set_option maxRecDepth 100000 in
theorem paneR_in {H : Type} {enc : TypeId × Value → H} {W : World} {fuel base : Nat} {spare : Nat → Bool} {held : Bool} {cs : List Value} {x : DataW H × List MemPlace}
    (hf : DataW.trod enc Tryz.prog W base spare held fuel 40 cs = some x) : ∃ t : Pn, cs = (pnc t).toList ∧ t.k.size ∈ x.1.weights Tryz.prog 40 := by
  have c9 : Tryz.prog.cellsOf 40 = 9 := by kernel_rfl
  have c4 : Tryz.prog.cellsOf 38 = 4 := by kernel_rfl
  have c2 : Tryz.prog.cellsOf 35 = 2 := by kernel_rfl
  have c1 : Tryz.prog.cellsOf 2 = 1 := by kernel_rfl
  have cs1 : Tryz.prog.cellsOf 9 = 1 := by kernel_rfl
  have ck : Tryz.prog.cellsOf 36 = 1 := by kernel_rfl
  obtain ⟨xs, k, -, hx, hcl, hxl, hfs⟩ := DataW.trod_struct Tryz.underlying40 hf
  rw [c9] at hcl
  match xs, hxl, cs, hcl with
  | [y0, y1, y2, y3, y4], _, [v0, v1, v2, v3, v4, v5, v6, v7, v8], _ =>
    have g0 := hfs 0 _ rfl
    have g1 := hfs 1 _ rfl
    have g2 := hfs 2 _ rfl
    have g3 := hfs 3 _ rfl
    have g4 := hfs 4 _ rfl
    simp [c1, c2, c4, cs1, ck] at g0 g1 g2 g3 g4
    obtain ⟨a0, e0, z0, w0⟩ := DataW.trod_string Tryz.underlying9 g0
    obtain ⟨a, b, e1⟩ := spanR_in g1
    obtain ⟨a2, e2, z2, w2⟩ := DataW.trod_int Tryz.underlying36 g2
    obtain ⟨a3, e3, z3, w3⟩ := DataW.trod_int Tryz.underlying2 g3
    obtain ⟨t, e4⟩ := tallyR_in g4
    simp at e1 e4
    obtain ⟨rfl, rfl⟩ := e1
    obtain ⟨rfl, rfl, rfl, rfl⟩ := e4
    injection e0 with e0
    injection e2 with e2
    injection e3 with e3
    refine ⟨⟨a0, a, b, a2, a3, t⟩, by rw [e0, e2, e3], ?_⟩
    rw [hx]
    simp [DataW.weights, DataW.weightsEach, Tryz.underlying40, z0]
set_option maxRecDepth 100000 in
theorem paneR_arg {H : Type} {enc : TypeId × Value → H} {W : World} {base : Nat} {r : Reach} {b0 : Nat} {spare : Nat → Bool} {held : Bool} {v : Value} {d : DataW H} {p : List MemPlace} (hv : Value.okWide Tryz.prog W r b0 40 v)
    (h : DataW.Trod enc Tryz.prog W base spare held 40 v d p) : ∃ t : Pn, v = pnv t := by
  obtain ⟨cs, rfl, -⟩ := okWide_struct Tryz.underlying40 hv
  obtain ⟨fuel, hf⟩ := h
  obtain ⟨t, e, -⟩ := paneR_in hf
  refine ⟨t, ?_⟩
  have : cs = pnc t := Array.toList_inj.1 e
  rw [this]
theorem cell_spotR {w : World} {a : Addr} {v : Value} (h : w.cell? (a.add 0) = some v) : a.spot = none := by
  obtain ⟨b, o, sp⟩ := a
  have hs : ((⟨b, o, sp⟩ : Addr).add 0) = ⟨b, o, sp⟩ := by unfold Addr.add; split <;> simp_all
  rw [hs] at h
  cases sp with
  | none => rfl
  | some x =>
    unfold World.cell? at h
    split at h <;> simp at h
theorem cellsPaneR : Tryz.prog.cellsOf 40 = 9 := by kernel_rfl
set_option maxRecDepth 100000 in
theorem panesR_in {H : Type} {enc : TypeId × Value → H} {W : World} {fuel base : Nat} {spare : Nat → Bool} {held : Bool} {v : Value} {x : DataW H × List MemPlace}
    (hf : DataW.trod enc Tryz.prog W base spare held fuel 22 [v] = some x) (hw : ∀ n ∈ x.1.weights Tryz.prog 22, n ≤ 140737488351232) :
    ∃ (ao : Option Addr) (cap : Nat) (l : List Pn), v = .slice ao l.length cap ∧ encP.Sl W ao cap l ∧ KeyB l := by
  rcases Go.Deep.open_slice Tryz.underlying22 hf with ⟨hcs, _⟩ | ⟨a, len, cap, m, n, D, Pl, hcs, _, hl, _, hmm, hx, hel⟩
  · injection hcs with hcs
    exact ⟨none, 0, [], hcs, Rc.Sl.empty _, fun p hp => (nomatch hp)⟩
  · injection hcs with hcs
    have hlm : len ≤ m := by rw [hmm]; split <;> omega
    subst hx
    have each : ∀ i, ∃ t : Pn, i < len → (∀ j (hj : j < 9), W.cell? (a.add (i * 9 + j)) = some ((pnc t).toList[j]'hj)) ∧ t.k.size ≤ 140737488351232 := fun i => by
      by_cases hi : i < len
      · obtain ⟨cs', h1, h2⟩ := hel i (by omega)
        rw [cellsPaneR] at h1
        obtain ⟨_, hlc, hcell⟩ := World.cells?_some h1
        obtain ⟨t, et, ok⟩ := paneR_in h2
        subst et
        refine ⟨t, fun _ => ⟨fun j hj => ?_, hw _ ?_⟩⟩
        · have e0 := hcell j (by omega)
          rw [Go.Deep.add_add] at e0
          exact e0.trans (List.getElem?_eq_getElem _)
        · simp only [DataW.weights, Tryz.underlying22, List.mem_cons, List.mem_append]
          exact .inr (.inl (weights_allR _ (D i) (List.mem_map.2 ⟨i, by simpa using hi, rfl⟩) _ ok))
      · exact ⟨pn0, fun h => absurd h hi⟩
    obtain ⟨f, hf'⟩ := Classical.axiomOfChoice each
    refine ⟨some a, cap, (List.range len).map f, by simpa using hcs, ⟨fun i u hu => ?_, fun h => (nomatch h), by simp; omega⟩, fun p hp => ?_⟩
    · have hi : i < (encP.flat ((List.range len).map f)).length := (List.getElem?_eq_some_iff.1 hu).1
      rw [encP.flat_len] at hi
      have e9 : encP.n = 9 := rfl
      rw [e9, List.length_map, List.length_range] at hi
      have hj : i / 9 < len := by omega
      have h0 := (hf' 0 (by omega)).1 0 (by omega)
      simp only [Nat.zero_mul, Nat.zero_add] at h0
      have hsp := cell_spotR h0
      obtain ⟨b, o, sp⟩ := a
      simp only at hsp
      subst hsp
      have c := (hf' (i / 9) hj).1 (i % 9) (by omega)
      rw [Addr.add_lit] at c
      have ei : i / 9 * 9 + i % 9 = i := by omega
      rw [ei] at c
      have g := encP.flat_get ((List.range len).map f) (i / 9) (by simpa using hj) (i % 9) (by rw [e9]; omega)
      rw [e9, ei, hu] at g
      refine ⟨b, o, rfl, c.trans ?_⟩
      rw [g]
      have : ((List.range len).map f)[i / 9]'(by simpa using hj) = f (i / 9) := by simp
      rw [this]
      exact (List.getElem?_eq_getElem _).symm
    · obtain ⟨i, hi, rfl⟩ := List.mem_map.1 hp
      exact (hf' i (by simpa using hi)).2

end Go.Proofs.YtamfcmmhmfhhkaaGreatDoor

namespace Go.Proofs.YtamfcmmhmfhhkaaGreatDoor
open Go.ChangeShapes Go.WideShapes Go.ChangeAt Go.RowKit

theorem own : ownKnob Tryz.prog.godebug = none := by kernel_rfl
theorem laidOut : laidOutB Tryz.prog = true := by kernel_rfl
theorem gPow : Tryz.prog.globalNamed "internal/strconv.uint64pow10" = some 1 := by kernel_rfl
theorem gPowType : (Tryz.prog.globals[1]?).map (·.type) = some 158 := by kernel_rfl
theorem cells20 : Tryz.prog.cellsOf 158 = 20 := by kernel_rfl
theorem cellsU64 : Tryz.prog.cellsOf 135 = 1 := by kernel_rfl
theorem gKd : Tryz.prog.globalNamed "keepsake/panes.kinds" = some 0 := by kernel_rfl
theorem gKdType : (Tryz.prog.globals[0]?).map (·.type) = some 89 := by kernel_rfl
theorem cells4s : Tryz.prog.cellsOf 89 = 4 := by kernel_rfl
theorem cellsStr : Tryz.prog.cellsOf 9 = 1 := by kernel_rfl

/-- A row of texts that reads as these texts holds them. -/
theorem cells_of_txt {H : Type} {enc : TypeId × Value → H} {P : Program} {w : World} {base : Nat} {sp : Nat → Bool} {held : Bool} {fuel : Nat} {t e : TypeId} {n : Nat} {cs : List Value} {zs : List (List UInt8)} {p : List MemPlace}
    (ht : P.underlying t = some (.array n e)) (he : P.underlying e = some .string) (hce : P.cellsOf e = 1) (hct : P.cellsOf t = n)
    (h : DataW.trod enc P w base sp held fuel t cs = some (.agg (zs.map fun z => .lit (.string z)), p)) : ∀ i, i < n → ∃ s : ByteArray, cs[i]? = some (.string s) ∧ zs[i]? = some s.data.toList := by
  cases fuel with
  | zero => simp [DataW.trod] at h
  | succ fuel =>
    simp only [DataW.trod, ht, hce, hct, Nat.mul_one] at h
    split at h
    · rename_i hl
      obtain ⟨xs, hm, hx⟩ := Option.map_eq_some_iff.1 h
      have hxs : xs.map (·.1) = zs.map fun z => (DataW.lit (.string z) : DataW H) := by
        have := congrArg Prod.fst hx
        simpa using this
      intro i hi
      obtain ⟨b, hb, hf⟩ := Lib.mapM_at hm i i (by simp [hi])
      obtain ⟨s, hc, hz, _⟩ := DataW.trod_string he hf
      have h1 : cs[i]? = some (.string s) := by
        have := congrArg (·[0]?) hc
        simpa [List.getElem?_take, List.getElem?_drop] using this
      refine ⟨s, h1, ?_⟩
      have h2 : (xs.map (·.1))[i]? = some (DataW.lit (.string s.data.toList) : DataW H) := by
        rw [List.getElem?_map, hb]
        simp [hz]
      rw [hxs] at h2
      simp only [List.getElem?_map, Option.map_eq_some_iff, DataW.lit.injEq, Lit.string.injEq] at h2
      obtain ⟨z', hz', rfl⟩ := h2
      exact hz'
    · cases h

theorem pow_of {W : World} {rest : List (String × DataW Unit)} (h : laidMet Tryz.prog (("internal/strconv.uint64pow10", Rows.laid_internal_strconv_uint64pow10) :: rest) W) : Tab W :=
  Lib.tabIs_of_head (zs := Lib.pow10Tab) (rest := rest) gPow gPowType Tryz.underlying158 Tryz.underlying135 cellsU64 cells20 h

theorem kinds_of {W : World} {rest : List (String × DataW Unit)} (h : laidMet Tryz.prog (("keepsake/panes.kinds", Rows.laid_keepsake_panes_kinds) :: rest) W) : Kds W := by
  obtain ⟨ps, ⟨g', t', cs, fuel, p, q, hg', ht', hvar, hd, _, _⟩, _⟩ := h
  obtain rfl := Option.some.inj (gKd.symm.trans hg')
  obtain rfl := Option.some.inj (gKdType.symm.trans ht')
  have hc := cells_of_txt (zs := [(kdB 0).data.toList, (kdB 1).data.toList, (kdB 2).data.toList, (kdB 3).data.toList]) Tryz.underlying89 Tryz.underlying9 cellsStr cells4s hd
  intro i hi
  obtain ⟨s, h1, h2⟩ := hc i hi
  have hs : s = kdB i := by
    have : s.data.toList = (kdB i).data.toList := by
      rcases (by omega : i = 0 ∨ i = 1 ∨ i = 2 ∨ i = 3) with rfl | rfl | rfl | rfl <;> exact (Option.some.inj h2).symm
    exact ByteArray.ext (Array.toList_inj.1 this)
  rw [World.var?_cell gKd hvar i, ← Array.getElem?_toList, h1, hs]

/-- The list of variables that the rows have. -/
abbrev laidsQ : List (String × DataW Unit) := [("math/bits.deBruijn32tab", Rows.laid_math_bits_deBruijn32tab), ("math/bits.deBruijn64tab", Rows.laid_math_bits_deBruijn64tab), ("internal/strconv.uint64pow10", Rows.laid_internal_strconv_uint64pow10), ("strconv.ErrRange", Rows.laid_strconv_ErrRange), ("strconv.ErrSyntax", Rows.laid_strconv_ErrSyntax), ("keepsake/panes.kinds", Rows.laid_keepsake_panes_kinds)]

theorem gErrRange : Tryz.prog.globalNamed "strconv.ErrRange" = some 4 := by kernel_rfl
theorem gErrRangeType : (Tryz.prog.globals[4]?).map (·.type) = some 124 := by kernel_rfl
theorem cell_ErrRange {W : World} {rest : List (String × DataW Unit)} (h : laidMet Tryz.prog (("strconv.ErrRange", Rows.laid_strconv_ErrRange) :: rest) W) : ∃ te pe, W.cell? ⟨4, 0, none⟩ = some (.iface te pe) := by
  obtain ⟨ps, ⟨g', t', cs, fuel, p, q, hg', ht', hvar, hd, _, _⟩, _⟩ := h
  obtain rfl := Option.some.inj (gErrRange.symm.trans hg')
  obtain rfl := Option.some.inj (gErrRangeType.symm.trans ht')
  obtain ⟨f1, u, v, hcs, -, -⟩ := iface_of_trod Tryz.underlying124 hd
  refine ⟨u, v, ?_⟩
  rw [World.var?_cell gErrRange hvar 0, ← Array.getElem?_toList, hcs]
  rfl
theorem gErrSyntax : Tryz.prog.globalNamed "strconv.ErrSyntax" = some 3 := by kernel_rfl
theorem gErrSyntaxType : (Tryz.prog.globals[3]?).map (·.type) = some 124 := by kernel_rfl
theorem cell_ErrSyntax {W : World} {rest : List (String × DataW Unit)} (h : laidMet Tryz.prog (("strconv.ErrSyntax", Rows.laid_strconv_ErrSyntax) :: rest) W) : ∃ te pe, W.cell? ⟨3, 0, none⟩ = some (.iface te pe) := by
  obtain ⟨ps, ⟨g', t', cs, fuel, p, q, hg', ht', hvar, hd, _, _⟩, _⟩ := h
  obtain rfl := Option.some.inj (gErrSyntax.symm.trans hg')
  obtain rfl := Option.some.inj (gErrSyntaxType.symm.trans ht')
  obtain ⟨f1, u, v, hcs, -, -⟩ := iface_of_trod Tryz.underlying124 hd
  refine ⟨u, v, ?_⟩
  rw [World.var?_cell gErrSyntax hvar 0, ← Array.getElem?_toList, hcs]
  rfl
theorem yv_laid {W : World} (h : laidMetH Tryz.prog laidsQ W) (hs : W.ShapedOpen Tryz.prog) : Yv W := by
  have h1 := laidMet.tail (laidMet.tail (show laidMet Tryz.prog laidsQ W from h))
  have h2 := laidMet.tail h1
  have h3 := laidMet.tail h2
  exact ⟨pow_of h1, ⟨cell_ErrSyntax h3, cell_ErrRange h2, Go.Proofs.cell_of_shapedOpen_int (zero := #[.int .i64 0]) (t := 3) hs (of_decide_eq_true (by kernel_rfl)) (by kernel_rfl) rfl (by kernel_rfl) (by kernel_rfl) Tryz.underlying3⟩, kinds_of (laidMet.tail h3)⟩

/-- A world for the witness. -/
def putIn (h : Array Obj) (g : Nat) (cs : Array Value) : Array Obj := h.modify g fun
  | .cells _ t frozen => .cells cs t frozen
  | o => o
noncomputable def lowQ : Nat := (World.holding Tryz.prog default ⟨#[], #[], []⟩).heap.size
noncomputable def laidWorldQ (os : Os) : World :=
  { World.holding Tryz.prog os ⟨#[.cells #[.string ⟨#[105, 110, 118, 97, 108, 105, 100, 32, 115, 121, 110, 116, 97, 120]⟩] 170, .cells #[.string ⟨#[118, 97, 108, 117, 101, 32, 111, 117, 116, 32, 111, 102, 32, 114, 97, 110, 103, 101]⟩] 170], #[], []⟩ with heap := (putIn (putIn (putIn (putIn (putIn (putIn (World.holding Tryz.prog os ⟨#[.cells #[.string ⟨#[105, 110, 118, 97, 108, 105, 100, 32, 115, 121, 110, 116, 97, 120]⟩] 170, .cells #[.string ⟨#[118, 97, 108, 117, 101, 32, 111, 117, 116, 32, 111, 102, 32, 114, 97, 110, 103, 101]⟩] 170], #[], []⟩).heap 5 #[.int .u8 0, .int .u8 1, .int .u8 28, .int .u8 2, .int .u8 29, .int .u8 14, .int .u8 24, .int .u8 3, .int .u8 30, .int .u8 22, .int .u8 20, .int .u8 15, .int .u8 25, .int .u8 17, .int .u8 4, .int .u8 8, .int .u8 31, .int .u8 27, .int .u8 13, .int .u8 23, .int .u8 21, .int .u8 19, .int .u8 16, .int .u8 7, .int .u8 26, .int .u8 12, .int .u8 18, .int .u8 6, .int .u8 11, .int .u8 5, .int .u8 10, .int .u8 9]) 6 #[.int .u8 0, .int .u8 1, .int .u8 56, .int .u8 2, .int .u8 57, .int .u8 49, .int .u8 28, .int .u8 3, .int .u8 61, .int .u8 58, .int .u8 42, .int .u8 50, .int .u8 38, .int .u8 29, .int .u8 17, .int .u8 4, .int .u8 62, .int .u8 47, .int .u8 59, .int .u8 36, .int .u8 45, .int .u8 43, .int .u8 51, .int .u8 22, .int .u8 53, .int .u8 39, .int .u8 33, .int .u8 30, .int .u8 24, .int .u8 18, .int .u8 12, .int .u8 5, .int .u8 63, .int .u8 55, .int .u8 48, .int .u8 27, .int .u8 60, .int .u8 41, .int .u8 37, .int .u8 16, .int .u8 46, .int .u8 35, .int .u8 44, .int .u8 21, .int .u8 52, .int .u8 32, .int .u8 23, .int .u8 11, .int .u8 54, .int .u8 26, .int .u8 40, .int .u8 15, .int .u8 34, .int .u8 20, .int .u8 31, .int .u8 10, .int .u8 25, .int .u8 14, .int .u8 19, .int .u8 9, .int .u8 13, .int .u8 8, .int .u8 7, .int .u8 6]) 1 #[.int .u64 1, .int .u64 10, .int .u64 100, .int .u64 1000, .int .u64 10000, .int .u64 100000, .int .u64 1000000, .int .u64 10000000, .int .u64 100000000, .int .u64 1000000000, .int .u64 10000000000, .int .u64 100000000000, .int .u64 1000000000000, .int .u64 10000000000000, .int .u64 100000000000000, .int .u64 1000000000000000, .int .u64 10000000000000000, .int .u64 100000000000000000, .int .u64 1000000000000000000, .int .u64 10000000000000000000]) 0 #[.string ⟨#[]⟩, .string ⟨#[101, 97, 114, 108, 121]⟩, .string ⟨#[111, 110, 116, 105, 109, 101]⟩, .string ⟨#[108, 97, 116, 101]⟩]) 3 #[.iface 168 (.pointer (some ⟨lowQ, 0, none⟩))]) 4 #[.iface 168 (.pointer (some ⟨lowQ + 1, 0, none⟩))]) }

end Go.Proofs.YtamfcmmhmfhhkaaGreatDoor
