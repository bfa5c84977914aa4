/- What the rows of panes list: the table of tens, the errors of the library and the words of kinds lie in memory; a world for the witness. -/
import Derived.Test.YtamfcmmhmfhhkaaGreatDoorCards
import Derived.Test.YtamfcmmhmfhhkaaGreatDoorTie
import Derived.Test.YtamfcmmhmfhhkaaGreatDoorG12
import Derived.ProofKit
import Derived.OpenShut
import Derived.Deep.DeepHandedRow
import Derived.Lib.LaidTab
import Derived.Stop.LaidErr
import Derived.Shelf.Vars
namespace Go.Proofs.YtamfcmmhmfhhkaaGreatDoor
open Go.ChangeShapes Go.WideShapes Go.ChangeAt Go.RowKit

theorem own : ownKnob Tryz.prog.godebug = none := by kernel_rfl
theorem laidOut : laidOutB Tryz.prog = true := by kernel_rfl
theorem gPow : Tryz.prog.globalNamed "internal/strconv.uint64pow10" = some 1 := by kernel_rfl
theorem gPowType : (Tryz.prog.globals[1]?).map (·.type) = some 158 := by kernel_rfl
theorem cells20 : Tryz.prog.cellsOf 158 = 20 := by kernel_rfl
theorem cellsU64 : Tryz.prog.cellsOf 135 = 1 := by kernel_rfl
theorem gKd : Tryz.prog.globalNamed "keepsake/panes.kinds" = some 0 := by kernel_rfl
theorem gKdType : (Tryz.prog.globals[0]?).map (·.type) = some 89 := by kernel_rfl
theorem cells4s : Tryz.prog.cellsOf 89 = 4 := by kernel_rfl
theorem cellsStr : Tryz.prog.cellsOf 9 = 1 := by kernel_rfl

/-- A row of texts that reads as these texts holds them. -/
theorem cells_of_txt {H : Type} {enc : TypeId × Value → H} {P : Program} {w : World} {base : Nat} {sp : Nat → Bool} {held : Bool} {fuel : Nat} {t e : TypeId} {n : Nat} {cs : List Value} {zs : List (List UInt8)} {p : List MemPlace}
    (ht : P.underlying t = some (.array n e)) (he : P.underlying e = some .string) (hce : P.cellsOf e = 1) (hct : P.cellsOf t = n)
    (h : DataW.trod enc P w base sp held fuel t cs = some (.agg (zs.map fun z => .lit (.string z)), p)) : ∀ i, i < n → ∃ s : ByteArray, cs[i]? = some (.string s) ∧ zs[i]? = some s.data.toList := by
  cases fuel with
  | zero => simp [DataW.trod] at h
  | succ fuel =>
    simp only [DataW.trod, ht, hce, hct, Nat.mul_one] at h
    split at h
    · rename_i hl
      obtain ⟨xs, hm, hx⟩ := Option.map_eq_some_iff.1 h
      have hxs : xs.map (·.1) = zs.map fun z => (DataW.lit (.string z) : DataW H) := by
        have := congrArg Prod.fst hx
        simpa using this
      intro i hi
      obtain ⟨b, hb, hf⟩ := Lib.mapM_at hm i i (by simp [hi])
      obtain ⟨s, hc, hz, _⟩ := DataW.trod_string he hf
      have h1 : cs[i]? = some (.string s) := by
        have := congrArg (·[0]?) hc
        simpa [List.getElem?_take, List.getElem?_drop] using this
      refine ⟨s, h1, ?_⟩
      have h2 : (xs.map (·.1))[i]? = some (DataW.lit (.string s.data.toList) : DataW H) := by
        rw [List.getElem?_map, hb]
        simp [hz]
      rw [hxs] at h2
      simp only [List.getElem?_map, Option.map_eq_some_iff, DataW.lit.injEq, Lit.string.injEq] at h2
      obtain ⟨z', hz', rfl⟩ := h2
      exact hz'
    · cases h

theorem pow_of {W : World} {rest : List (String × DataW Unit)} (h : laidMet Tryz.prog (("internal/strconv.uint64pow10", Rows.laid_internal_strconv_uint64pow10) :: rest) W) : Tab W :=
  Lib.tabIs_of_head (zs := Lib.pow10Tab) (rest := rest) gPow gPowType Tryz.underlying158 Tryz.underlying135 cellsU64 cells20 h

theorem kinds_of {W : World} {rest : List (String × DataW Unit)} (h : laidMet Tryz.prog (("keepsake/panes.kinds", Rows.laid_keepsake_panes_kinds) :: rest) W) : Kds W := by
  obtain ⟨ps, ⟨g', t', cs, fuel, p, q, hg', ht', hvar, hd, _, _⟩, _⟩ := h
  obtain rfl := Option.some.inj (gKd.symm.trans hg')
  obtain rfl := Option.some.inj (gKdType.symm.trans ht')
  have hc := cells_of_txt (zs := [(kdB 0).data.toList, (kdB 1).data.toList, (kdB 2).data.toList, (kdB 3).data.toList]) Tryz.underlying89 Tryz.underlying9 cellsStr cells4s hd
  intro i hi
  obtain ⟨s, h1, h2⟩ := hc i hi
  have hs : s = kdB i := by
    have : s.data.toList = (kdB i).data.toList := by
      rcases (by omega : i = 0 ∨ i = 1 ∨ i = 2 ∨ i = 3) with rfl | rfl | rfl | rfl <;> exact (Option.some.inj h2).symm
    exact ByteArray.ext (Array.toList_inj.1 this)
  rw [World.var?_cell gKd hvar i, ← Array.getElem?_toList, h1, hs]

/-- The list of variables that the rows have. -/
abbrev laidsQ : List (String × DataW Unit) := [("math/bits.deBruijn32tab", Rows.laid_math_bits_deBruijn32tab), ("math/bits.deBruijn64tab", Rows.laid_math_bits_deBruijn64tab), ("internal/strconv.uint64pow10", Rows.laid_internal_strconv_uint64pow10), ("strconv.ErrRange", Rows.laid_strconv_ErrRange), ("strconv.ErrSyntax", Rows.laid_strconv_ErrSyntax), ("keepsake/panes.kinds", Rows.laid_keepsake_panes_kinds)]

theorem gErrRange : Tryz.prog.globalNamed "strconv.ErrRange" = some 4 := by kernel_rfl
theorem gErrRangeType : (Tryz.prog.globals[4]?).map (·.type) = some 124 := by kernel_rfl
theorem cell_ErrRange {W : World} {rest : List (String × DataW Unit)} (h : laidMet Tryz.prog (("strconv.ErrRange", Rows.laid_strconv_ErrRange) :: rest) W) : ∃ te pe, W.cell? ⟨4, 0, none⟩ = some (.iface te pe) := by
  obtain ⟨ps, ⟨g', t', cs, fuel, p, q, hg', ht', hvar, hd, _, _⟩, _⟩ := h
  obtain rfl := Option.some.inj (gErrRange.symm.trans hg')
  obtain rfl := Option.some.inj (gErrRangeType.symm.trans ht')
  obtain ⟨f1, u, v, hcs, -, -⟩ := iface_of_trod Tryz.underlying124 hd
  refine ⟨u, v, ?_⟩
  rw [World.var?_cell gErrRange hvar 0, ← Array.getElem?_toList, hcs]
  rfl
theorem gErrSyntax : Tryz.prog.globalNamed "strconv.ErrSyntax" = some 3 := by kernel_rfl
theorem gErrSyntaxType : (Tryz.prog.globals[3]?).map (·.type) = some 124 := by kernel_rfl
theorem cell_ErrSyntax {W : World} {rest : List (String × DataW Unit)} (h : laidMet Tryz.prog (("strconv.ErrSyntax", Rows.laid_strconv_ErrSyntax) :: rest) W) : ∃ te pe, W.cell? ⟨3, 0, none⟩ = some (.iface te pe) := by
  obtain ⟨ps, ⟨g', t', cs, fuel, p, q, hg', ht', hvar, hd, _, _⟩, _⟩ := h
  obtain rfl := Option.some.inj (gErrSyntax.symm.trans hg')
  obtain rfl := Option.some.inj (gErrSyntaxType.symm.trans ht')
  obtain ⟨f1, u, v, hcs, -, -⟩ := iface_of_trod Tryz.underlying124 hd
  refine ⟨u, v, ?_⟩
  rw [World.var?_cell gErrSyntax hvar 0, ← Array.getElem?_toList, hcs]
  rfl
theorem yv_laid {W : World} (h : laidMetH Tryz.prog laidsQ W) (hs : W.ShapedOpen Tryz.prog) : Yv W := by
  have h1 := laidMet.tail (laidMet.tail (show laidMet Tryz.prog laidsQ W from h))
  have h2 := laidMet.tail h1
  have h3 := laidMet.tail h2
  exact ⟨pow_of h1, ⟨cell_ErrSyntax h3, cell_ErrRange h2, Go.Proofs.cell_of_shapedOpen_int (zero := #[.int .i64 0]) (t := 3) hs (of_decide_eq_true (by kernel_rfl)) (by kernel_rfl) rfl (by kernel_rfl) (by kernel_rfl) Tryz.underlying3⟩, kinds_of (laidMet.tail h3)⟩

/-- A world for the witness. -/
def putIn (h : Array Obj) (g : Nat) (cs : Array Value) : Array Obj := h.modify g fun
  | .cells _ t frozen => .cells cs t frozen
  | o => o
noncomputable def lowQ : Nat := (World.holding Tryz.prog default ⟨#[], #[], []⟩).heap.size
noncomputable def laidWorldQ (os : Os) : World :=
  { World.holding Tryz.prog os ⟨#[.cells #[.string ⟨#[105, 110, 118, 97, 108, 105, 100, 32, 115, 121, 110, 116, 97, 120]⟩] 170, .cells #[.string ⟨#[118, 97, 108, 117, 101, 32, 111, 117, 116, 32, 111, 102, 32, 114, 97, 110, 103, 101]⟩] 170], #[], []⟩ with heap := (putIn (putIn (putIn (putIn (putIn (putIn (World.holding Tryz.prog os ⟨#[.cells #[.string ⟨#[105, 110, 118, 97, 108, 105, 100, 32, 115, 121, 110, 116, 97, 120]⟩] 170, .cells #[.string ⟨#[118, 97, 108, 117, 101, 32, 111, 117, 116, 32, 111, 102, 32, 114, 97, 110, 103, 101]⟩] 170], #[], []⟩).heap 5 #[.int .u8 0, .int .u8 1, .int .u8 28, .int .u8 2, .int .u8 29, .int .u8 14, .int .u8 24, .int .u8 3, .int .u8 30, .int .u8 22, .int .u8 20, .int .u8 15, .int .u8 25, .int .u8 17, .int .u8 4, .int .u8 8, .int .u8 31, .int .u8 27, .int .u8 13, .int .u8 23, .int .u8 21, .int .u8 19, .int .u8 16, .int .u8 7, .int .u8 26, .int .u8 12, .int .u8 18, .int .u8 6, .int .u8 11, .int .u8 5, .int .u8 10, .int .u8 9]) 6 #[.int .u8 0, .int .u8 1, .int .u8 56, .int .u8 2, .int .u8 57, .int .u8 49, .int .u8 28, .int .u8 3, .int .u8 61, .int .u8 58, .int .u8 42, .int .u8 50, .int .u8 38, .int .u8 29, .int .u8 17, .int .u8 4, .int .u8 62, .int .u8 47, .int .u8 59, .int .u8 36, .int .u8 45, .int .u8 43, .int .u8 51, .int .u8 22, .int .u8 53, .int .u8 39, .int .u8 33, .int .u8 30, .int .u8 24, .int .u8 18, .int .u8 12, .int .u8 5, .int .u8 63, .int .u8 55, .int .u8 48, .int .u8 27, .int .u8 60, .int .u8 41, .int .u8 37, .int .u8 16, .int .u8 46, .int .u8 35, .int .u8 44, .int .u8 21, .int .u8 52, .int .u8 32, .int .u8 23, .int .u8 11, .int .u8 54, .int .u8 26, .int .u8 40, .int .u8 15, .int .u8 34, .int .u8 20, .int .u8 31, .int .u8 10, .int .u8 25, .int .u8 14, .int .u8 19, .int .u8 9, .int .u8 13, .int .u8 8, .int .u8 7, .int .u8 6]) 1 #[.int .u64 1, .int .u64 10, .int .u64 100, .int .u64 1000, .int .u64 10000, .int .u64 100000, .int .u64 1000000, .int .u64 10000000, .int .u64 100000000, .int .u64 1000000000, .int .u64 10000000000, .int .u64 100000000000, .int .u64 1000000000000, .int .u64 10000000000000, .int .u64 100000000000000, .int .u64 1000000000000000, .int .u64 10000000000000000, .int .u64 100000000000000000, .int .u64 1000000000000000000, .int .u64 10000000000000000000]) 0 #[.string ⟨#[]⟩, .string ⟨#[101, 97, 114, 108, 121]⟩, .string ⟨#[111, 110, 116, 105, 109, 101]⟩, .string ⟨#[108, 97, 116, 101]⟩]) 3 #[.iface 168 (.pointer (some ⟨lowQ, 0, none⟩))]) 4 #[.iface 168 (.pointer (some ⟨lowQ + 1, 0, none⟩))]) }

end Go.Proofs.YtamfcmmhmfhhkaaGreatDoor
