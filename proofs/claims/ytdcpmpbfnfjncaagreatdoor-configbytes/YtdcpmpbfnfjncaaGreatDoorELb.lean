/- What the row of ConfigBytes lists: the tables, the words and the errors lie in memory; a world for the witness. -/
import Derived.Test.YtdcpmpbfnfjncaaGreatDoorELp
import Derived.Test.YtdcpmpbfnfjncaaGreatDoorEDh
namespace Go.Proofs.YtdcpmpbfnfjncaaGreatDoor
open Go.ChangeShapes Go.WideShapes Go.ChangeAt Go.RowKit

abbrev laidsB : List (String × DataW Unit) := [("math/bits.deBruijn32tab", Rows.laid_math_bits_deBruijn32tab), ("math/bits.deBruijn64tab", Rows.laid_math_bits_deBruijn64tab), ("internal/strconv.uint64pow10", Rows.laid_internal_strconv_uint64pow10), ("unicode/utf8.acceptRanges", Rows.laid_unicode_utf8_acceptRanges), ("strconv.ErrRange", Rows.laid_strconv_ErrRange), ("strconv.ErrSyntax", Rows.laid_strconv_ErrSyntax), ("keepsake/crc.fourSteps", Rows.laid_keepsake_crc_fourSteps), ("keepsake/config.words", Rows.laid_keepsake_config_words), ("unicode/utf8.first", Rows.laid_unicode_utf8_first)]
theorem tab_laidB {W : World} (h : laidMetH Tryz.prog laidsB W) : Tab W := pow_of (laidMet.tail (laidMet.tail (show laidMet Tryz.prog laidsB W from h)))
theorem wrd_laidB {W : World} (h : laidMetH Tryz.prog laidsB W) : Words W gW := words_of (laidMet.tail (laidMet.tail (laidMet.tail (laidMet.tail (laidMet.tail (laidMet.tail (laidMet.tail (show laidMet Tryz.prog laidsB W from h))))))))
theorem err_laidB {W : World} (h : laidMetH Tryz.prog laidsB W) (hs : W.ShapedOpen Tryz.prog) : Errs W := by
  have h1 := laidMet.tail (laidMet.tail (laidMet.tail (laidMet.tail (show laidMet Tryz.prog laidsB W from h))))
  exact ⟨cell_ErrSyntax (laidMet.tail h1), cell_ErrRange h1, Tryz.laysM147.s1_3 W hs⟩
theorem gCrc : Tryz.prog.globalNamed "keepsake/crc.fourSteps" = some 1 := by kernel_rfl
theorem gCrcType : (Tryz.prog.globals[1]?).map (·.type) = some 116 := by kernel_rfl
theorem cells16 : Tryz.prog.cellsOf 116 = 16 := by kernel_rfl
theorem cellsU32 : Tryz.prog.cellsOf 29 = 1 := by kernel_rfl
theorem four_get : ∀ i : Fin 16, ([0, 274646895, 549293790, 820201905, 1098587580, 1361435347, 1640403810, 1905808397, 2197175160, 2460548119, 2722870694, 2987750089, 3280807620, 3553878443, 3811616794, 4084100981] : List Int).getD i.1 0 = ((Crcx.stps 4 i.1 : Nat) : Int) := by decide +kernel
theorem crc_of {W : World} {rest : List (String × DataW Unit)} (h : laidMet Tryz.prog (("keepsake/crc.fourSteps", Rows.laid_keepsake_crc_fourSteps) :: rest) W) : Crd.Tab W := by
  have t : Lib.TabIs Tryz.prog W "keepsake/crc.fourSteps" .u32 [0, 274646895, 549293790, 820201905, 1098587580, 1361435347, 1640403810, 1905808397, 2197175160, 2460548119, 2722870694, 2987750089, 3280807620, 3553878443, 3811616794, 4084100981] :=
    Lib.tabIs_of_head (rest := rest) gCrc gCrcType Tryz.underlying116 Tryz.underlying29 cellsU32 cells16 h
  refine ⟨fun i hi => ?_⟩
  rw [t.cell gCrc i (by simpa using hi), four_get ⟨i, hi⟩]
theorem crc_laidB {W : World} (h : laidMetH Tryz.prog laidsB W) : Crd.Tab W := crc_of (laidMet.tail (laidMet.tail (laidMet.tail (laidMet.tail (laidMet.tail (laidMet.tail (show laidMet Tryz.prog laidsB W from h)))))))

/-- A world for the witness. -/
noncomputable def laidWorldB (os : Os) : World :=
  { laidWorldP os with heap := putIn (laidWorldP os).heap 1 #[.int .u32 0, .int .u32 274646895, .int .u32 549293790, .int .u32 820201905, .int .u32 1098587580, .int .u32 1361435347, .int .u32 1640403810, .int .u32 1905808397, .int .u32 2197175160, .int .u32 2460548119, .int .u32 2722870694, .int .u32 2987750089, .int .u32 3280807620, .int .u32 3553878443, .int .u32 3811616794, .int .u32 4084100981] }

end Go.Proofs.YtdcpmpbfnfjncaaGreatDoor
