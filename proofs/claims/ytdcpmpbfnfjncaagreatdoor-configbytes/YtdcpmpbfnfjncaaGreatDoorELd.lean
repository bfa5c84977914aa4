/- What the row's list of variables gives: the library's table of tens and the job's words lie in memory; a world for the witness. -/
import Derived.Test.YtdcpmpbfnfjncaaGreatDoorCards
import Derived.Test.YtdcpmpbfnfjncaaGreatDoorTie
import Derived.Test.YtdcpmpbfnfjncaaGreatDoorEH
import Derived.ProofKit
import Derived.OpenShut
import Derived.Deep.DeepHandedRow
import Derived.Lib.LaidTab
import Derived.Stop.LaidErr
namespace Go.Proofs.YtdcpmpbfnfjncaaGreatDoor
open Go.ChangeShapes Go.WideShapes Go.ChangeAt Go.RowKit

theorem own : ownKnob Tryz.prog.godebug = none := by kernel_rfl
theorem laidOut : laidOutB Tryz.prog = true := by kernel_rfl
theorem gPow : Tryz.prog.globalNamed "internal/strconv.uint64pow10" = some 2 := by kernel_rfl
theorem gPowType : (Tryz.prog.globals[2]?).map (·.type) = some 132 := by kernel_rfl
theorem cells20 : Tryz.prog.cellsOf 132 = 20 := by kernel_rfl
theorem cellsU64 : Tryz.prog.cellsOf 52 = 1 := by kernel_rfl
theorem gWrd : Tryz.prog.globalNamed "keepsake/config.words" = some 0 := by kernel_rfl
theorem gWrdType : (Tryz.prog.globals[0]?).map (·.type) = some 56 := by kernel_rfl
theorem cells10s : Tryz.prog.cellsOf 56 = 10 := by kernel_rfl
theorem cellsStr : Tryz.prog.cellsOf 9 = 1 := by kernel_rfl

/-- A row of texts that reads as these texts holds them. -/
theorem cells_of_txt {H : Type} {enc : TypeId × Value → H} {P : Program} {w : World} {base : Nat} {sp : Nat → Bool} {held : Bool} {fuel : Nat} {t e : TypeId} {n : Nat} {cs : List Value} {zs : List (List UInt8)} {p : List MemPlace}
    (ht : P.underlying t = some (.array n e)) (he : P.underlying e = some .string) (hce : P.cellsOf e = 1) (hct : P.cellsOf t = n)
    (h : DataW.trod enc P w base sp held fuel t cs = some (.agg (zs.map fun z => .lit (.string z)), p)) : ∀ i, i < n → ∃ s : ByteArray, cs[i]? = some (.string s) ∧ zs[i]? = some s.data.toList := by
  cases fuel with
  | zero => simp [DataW.trod] at h
  | succ fuel =>
    simp only [DataW.trod, ht, hce, hct, Nat.mul_one] at h
    split at h
    · rename_i hl
      obtain ⟨xs, hm, hx⟩ := Option.map_eq_some_iff.1 h
      have hxs : xs.map (·.1) = zs.map fun z => (DataW.lit (.string z) : DataW H) := by
        have := congrArg Prod.fst hx
        simpa using this
      intro i hi
      obtain ⟨b, hb, hf⟩ := Lib.mapM_at hm i i (by simp [hi])
      obtain ⟨s, hc, hz, _⟩ := DataW.trod_string he hf
      have h1 : cs[i]? = some (.string s) := by
        have := congrArg (·[0]?) hc
        simpa [List.getElem?_take, List.getElem?_drop] using this
      refine ⟨s, h1, ?_⟩
      have h2 : (xs.map (·.1))[i]? = some (DataW.lit (.string s.data.toList) : DataW H) := by
        rw [List.getElem?_map, hb]
        simp [hz]
      rw [hxs] at h2
      simp only [List.getElem?_map, Option.map_eq_some_iff, DataW.lit.injEq, Lit.string.injEq] at h2
      obtain ⟨z', hz', rfl⟩ := h2
      exact hz'
    · cases h

theorem pow_of {W : World} {rest : List (String × DataW Unit)} (h : laidMet Tryz.prog (("internal/strconv.uint64pow10", Rows.laid_internal_strconv_uint64pow10) :: rest) W) : Tab W :=
  Lib.tabIs_of_head (zs := Lib.pow10Tab) (rest := rest) gPow gPowType Tryz.underlying132 Tryz.underlying52 cellsU64 cells20 h

theorem words_of {W : World} {rest : List (String × DataW Unit)} (h : laidMet Tryz.prog (("keepsake/config.words", Rows.laid_keepsake_config_words) :: rest) W) : Words W gW := by
  obtain ⟨ps, ⟨g', t', cs, fuel, p, q, hg', ht', hvar, hd, _, _⟩, _⟩ := h
  obtain rfl := Option.some.inj (gWrd.symm.trans hg')
  obtain rfl := Option.some.inj (gWrdType.symm.trans ht')
  have hc := cells_of_txt (zs := [(nm 0).data.toList, (nm 1).data.toList, (nm 2).data.toList, (nm 3).data.toList, (nm 4).data.toList, (nm 5).data.toList, (nm 6).data.toList, (nm 7).data.toList, (nm 8).data.toList, (nm 9).data.toList]) Tryz.underlying56 Tryz.underlying9 cellsStr cells10s hd
  intro W' hW i hi
  obtain ⟨s, h1, h2⟩ := hc i hi
  have hv := World.var?_cell gWrd hvar i
  have hs : s = nm i := by
    have : s.data.toList = (nm i).data.toList := by
      rcases (by omega : i = 0 ∨ i = 1 ∨ i = 2 ∨ i = 3 ∨ i = 4 ∨ i = 5 ∨ i = 6 ∨ i = 7 ∨ i = 8 ∨ i = 9) with rfl | rfl | rfl | rfl | rfl | rfl | rfl | rfl | rfl | rfl <;> exact (Option.some.inj h2).symm
    exact ByteArray.ext (Array.toList_inj.1 this)
  have hcell : W.cell? ⟨gW, i, none⟩ = some (.string s) := by
    rw [hv, ← Array.getElem?_toList]; exact h1
  rw [← hs, ← hcell]
  refine hW.cell ?_ (fun h => h)
  rcases Nat.lt_or_ge gW W.heap.size with h | h
  · exact h
  · exfalso; simp [World.cell?, Array.getElem?_eq_none h] at hcell

/-- The list of variables that the rows have. -/
abbrev laids : List (String × DataW Unit) := [("math/bits.deBruijn32tab", Rows.laid_math_bits_deBruijn32tab), ("math/bits.deBruijn64tab", Rows.laid_math_bits_deBruijn64tab), ("internal/strconv.uint64pow10", Rows.laid_internal_strconv_uint64pow10), ("keepsake/config.words", Rows.laid_keepsake_config_words)]
theorem tab_laid {W : World} (h : laidMetH Tryz.prog laids W) : Tab W := pow_of (laidMet.tail (laidMet.tail (show laidMet Tryz.prog laids W from h)))
theorem wrd_laid {W : World} (h : laidMetH Tryz.prog laids W) : Words W gW := words_of (laidMet.tail (laidMet.tail (laidMet.tail (show laidMet Tryz.prog laids W from h))))

/-- A world for the witness: the settled one, the variables holding what their initialisers lay. -/
def putIn (h : Array Obj) (g : Nat) (cs : Array Value) : Array Obj := h.modify g fun
  | .cells _ t frozen => .cells cs t frozen
  | o => o
noncomputable def laidWorld (os : Os) : World :=
  { World.holding Tryz.prog os ⟨#[], #[], []⟩ with heap := putIn (putIn (putIn (putIn (World.holding Tryz.prog os ⟨#[], #[], []⟩).heap 6 #[.int .u8 0, .int .u8 1, .int .u8 28, .int .u8 2, .int .u8 29, .int .u8 14, .int .u8 24, .int .u8 3, .int .u8 30, .int .u8 22, .int .u8 20, .int .u8 15, .int .u8 25, .int .u8 17, .int .u8 4, .int .u8 8, .int .u8 31, .int .u8 27, .int .u8 13, .int .u8 23, .int .u8 21, .int .u8 19, .int .u8 16, .int .u8 7, .int .u8 26, .int .u8 12, .int .u8 18, .int .u8 6, .int .u8 11, .int .u8 5, .int .u8 10, .int .u8 9]) 7 #[.int .u8 0, .int .u8 1, .int .u8 56, .int .u8 2, .int .u8 57, .int .u8 49, .int .u8 28, .int .u8 3, .int .u8 61, .int .u8 58, .int .u8 42, .int .u8 50, .int .u8 38, .int .u8 29, .int .u8 17, .int .u8 4, .int .u8 62, .int .u8 47, .int .u8 59, .int .u8 36, .int .u8 45, .int .u8 43, .int .u8 51, .int .u8 22, .int .u8 53, .int .u8 39, .int .u8 33, .int .u8 30, .int .u8 24, .int .u8 18, .int .u8 12, .int .u8 5, .int .u8 63, .int .u8 55, .int .u8 48, .int .u8 27, .int .u8 60, .int .u8 41, .int .u8 37, .int .u8 16, .int .u8 46, .int .u8 35, .int .u8 44, .int .u8 21, .int .u8 52, .int .u8 32, .int .u8 23, .int .u8 11, .int .u8 54, .int .u8 26, .int .u8 40, .int .u8 15, .int .u8 34, .int .u8 20, .int .u8 31, .int .u8 10, .int .u8 25, .int .u8 14, .int .u8 19, .int .u8 9, .int .u8 13, .int .u8 8, .int .u8 7, .int .u8 6]) 2 #[.int .u64 1, .int .u64 10, .int .u64 100, .int .u64 1000, .int .u64 10000, .int .u64 100000, .int .u64 1000000, .int .u64 10000000, .int .u64 100000000, .int .u64 1000000000, .int .u64 10000000000, .int .u64 100000000000, .int .u64 1000000000000, .int .u64 10000000000000, .int .u64 100000000000000, .int .u64 1000000000000000, .int .u64 10000000000000000, .int .u64 100000000000000000, .int .u64 1000000000000000000, .int .u64 10000000000000000000]) 0 nms }

end Go.Proofs.YtdcpmpbfnfjncaaGreatDoor
