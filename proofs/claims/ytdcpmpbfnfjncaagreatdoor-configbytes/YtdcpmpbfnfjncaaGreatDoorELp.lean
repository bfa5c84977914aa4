/- What the row of ConfigParses lists: the table of tens, the words and the errors of the library lie in memory; a world for the witness. -/
import Derived.Test.YtdcpmpbfnfjncaaGreatDoorELd
import Derived.Test.YtdcpmpbfnfjncaaGreatDoorPka
namespace Go.Proofs.YtdcpmpbfnfjncaaGreatDoor
open Go.ChangeShapes Go.WideShapes Go.ChangeAt Go.RowKit

abbrev laidsP : List (String × DataW Unit) := [("math/bits.deBruijn32tab", Rows.laid_math_bits_deBruijn32tab), ("math/bits.deBruijn64tab", Rows.laid_math_bits_deBruijn64tab), ("internal/strconv.uint64pow10", Rows.laid_internal_strconv_uint64pow10), ("unicode/utf8.acceptRanges", Rows.laid_unicode_utf8_acceptRanges), ("strconv.ErrRange", Rows.laid_strconv_ErrRange), ("strconv.ErrSyntax", Rows.laid_strconv_ErrSyntax), ("keepsake/config.words", Rows.laid_keepsake_config_words), ("unicode/utf8.first", Rows.laid_unicode_utf8_first)]
theorem tab_laidP {W : World} (h : laidMetH Tryz.prog laidsP W) : Tab W := pow_of (laidMet.tail (laidMet.tail (show laidMet Tryz.prog laidsP W from h)))
theorem wrd_laidP {W : World} (h : laidMetH Tryz.prog laidsP W) : Words W gW := words_of (laidMet.tail (laidMet.tail (laidMet.tail (laidMet.tail (laidMet.tail (laidMet.tail (show laidMet Tryz.prog laidsP W from h)))))))

theorem gErrRange : Tryz.prog.globalNamed "strconv.ErrRange" = some 5 := by kernel_rfl
theorem gErrRangeType : (Tryz.prog.globals[5]?).map (·.type) = some 88 := by kernel_rfl
theorem cell_ErrRange {W : World} {rest : List (String × DataW Unit)} (h : laidMet Tryz.prog (("strconv.ErrRange", Rows.laid_strconv_ErrRange) :: rest) W) : ∃ te pe, W.cell? ⟨5, 0, none⟩ = some (.iface te pe) := by
  obtain ⟨ps, ⟨g', t', cs, fuel, p, q, hg', ht', hvar, hd, _, _⟩, _⟩ := h
  obtain rfl := Option.some.inj (gErrRange.symm.trans hg')
  obtain rfl := Option.some.inj (gErrRangeType.symm.trans ht')
  obtain ⟨f1, u, v, hcs, -, -⟩ := iface_of_trod Tryz.underlying88 hd
  refine ⟨u, v, ?_⟩
  rw [World.var?_cell gErrRange hvar 0, ← Array.getElem?_toList, hcs]
  rfl
theorem gErrSyntax : Tryz.prog.globalNamed "strconv.ErrSyntax" = some 4 := by kernel_rfl
theorem gErrSyntaxType : (Tryz.prog.globals[4]?).map (·.type) = some 88 := by kernel_rfl
theorem cell_ErrSyntax {W : World} {rest : List (String × DataW Unit)} (h : laidMet Tryz.prog (("strconv.ErrSyntax", Rows.laid_strconv_ErrSyntax) :: rest) W) : ∃ te pe, W.cell? ⟨4, 0, none⟩ = some (.iface te pe) := by
  obtain ⟨ps, ⟨g', t', cs, fuel, p, q, hg', ht', hvar, hd, _, _⟩, _⟩ := h
  obtain rfl := Option.some.inj (gErrSyntax.symm.trans hg')
  obtain rfl := Option.some.inj (gErrSyntaxType.symm.trans ht')
  obtain ⟨f1, u, v, hcs, -, -⟩ := iface_of_trod Tryz.underlying88 hd
  refine ⟨u, v, ?_⟩
  rw [World.var?_cell gErrSyntax hvar 0, ← Array.getElem?_toList, hcs]
  rfl
theorem err_laidP {W : World} (h : laidMetH Tryz.prog laidsP W) (hs : W.ShapedOpen Tryz.prog) : Errs W := by
  have h1 := laidMet.tail (laidMet.tail (laidMet.tail (laidMet.tail (show laidMet Tryz.prog laidsP W from h))))
  exact ⟨cell_ErrSyntax (laidMet.tail h1), cell_ErrRange h1, Tryz.laysM147.s1_3 W hs⟩

/-- A world for the witness. -/
noncomputable def lowP : Nat := (World.holding Tryz.prog default ⟨#[], #[], []⟩).heap.size
noncomputable def laidWorldP (os : Os) : World :=
  { World.holding Tryz.prog os ⟨#[.cells #[.string ⟨#[105, 110, 118, 97, 108, 105, 100, 32, 115, 121, 110, 116, 97, 120]⟩] 163, .cells #[.string ⟨#[118, 97, 108, 117, 101, 32, 111, 117, 116, 32, 111, 102, 32, 114, 97, 110, 103, 101]⟩] 163], #[], []⟩ with heap := putIn (putIn (putIn (putIn (putIn (putIn (putIn (putIn (World.holding Tryz.prog os ⟨#[.cells #[.string ⟨#[105, 110, 118, 97, 108, 105, 100, 32, 115, 121, 110, 116, 97, 120]⟩] 163, .cells #[.string ⟨#[118, 97, 108, 117, 101, 32, 111, 117, 116, 32, 111, 102, 32, 114, 97, 110, 103, 101]⟩] 163], #[], []⟩).heap 6 #[.int .u8 0, .int .u8 1, .int .u8 28, .int .u8 2, .int .u8 29, .int .u8 14, .int .u8 24, .int .u8 3, .int .u8 30, .int .u8 22, .int .u8 20, .int .u8 15, .int .u8 25, .int .u8 17, .int .u8 4, .int .u8 8, .int .u8 31, .int .u8 27, .int .u8 13, .int .u8 23, .int .u8 21, .int .u8 19, .int .u8 16, .int .u8 7, .int .u8 26, .int .u8 12, .int .u8 18, .int .u8 6, .int .u8 11, .int .u8 5, .int .u8 10, .int .u8 9]) 7 #[.int .u8 0, .int .u8 1, .int .u8 56, .int .u8 2, .int .u8 57, .int .u8 49, .int .u8 28, .int .u8 3, .int .u8 61, .int .u8 58, .int .u8 42, .int .u8 50, .int .u8 38, .int .u8 29, .int .u8 17, .int .u8 4, .int .u8 62, .int .u8 47, .int .u8 59, .int .u8 36, .int .u8 45, .int .u8 43, .int .u8 51, .int .u8 22, .int .u8 53, .int .u8 39, .int .u8 33, .int .u8 30, .int .u8 24, .int .u8 18, .int .u8 12, .int .u8 5, .int .u8 63, .int .u8 55, .int .u8 48, .int .u8 27, .int .u8 60, .int .u8 41, .int .u8 37, .int .u8 16, .int .u8 46, .int .u8 35, .int .u8 44, .int .u8 21, .int .u8 52, .int .u8 32, .int .u8 23, .int .u8 11, .int .u8 54, .int .u8 26, .int .u8 40, .int .u8 15, .int .u8 34, .int .u8 20, .int .u8 31, .int .u8 10, .int .u8 25, .int .u8 14, .int .u8 19, .int .u8 9, .int .u8 13, .int .u8 8, .int .u8 7, .int .u8 6]) 2 #[.int .u64 1, .int .u64 10, .int .u64 100, .int .u64 1000, .int .u64 10000, .int .u64 100000, .int .u64 1000000, .int .u64 10000000, .int .u64 100000000, .int .u64 1000000000, .int .u64 10000000000, .int .u64 100000000000, .int .u64 1000000000000, .int .u64 10000000000000, .int .u64 100000000000000, .int .u64 1000000000000000, .int .u64 10000000000000000, .int .u64 100000000000000000, .int .u64 1000000000000000000, .int .u64 10000000000000000000]) 0 nms) 9 #[.int .u8 128, .int .u8 191, .int .u8 160, .int .u8 191, .int .u8 128, .int .u8 159, .int .u8 144, .int .u8 191, .int .u8 128, .int .u8 143, .int .u8 0, .int .u8 0, .int .u8 0, .int .u8 0, .int .u8 0, .int .u8 0, .int .u8 0, .int .u8 0, .int .u8 0, .int .u8 0, .int .u8 0, .int .u8 0, .int .u8 0, .int .u8 0, .int .u8 0, .int .u8 0, .int .u8 0, .int .u8 0, .int .u8 0, .int .u8 0, .int .u8 0, .int .u8 0]) 8 ((Go.Pinned.utf8FirstZ.map fun (n : Nat) => Value.int .u8 (n : Int)).toArray)) 4 #[.iface 161 (.pointer (some ⟨lowP, 0, none⟩))]) 5 #[.iface 161 (.pointer (some ⟨lowP + 1, 0, none⟩))] }

end Go.Proofs.YtdcpmpbfnfjncaaGreatDoor
