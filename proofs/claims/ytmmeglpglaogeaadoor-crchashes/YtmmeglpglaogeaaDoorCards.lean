/-
  DERIVED. GIVEN WITH THE SEED: THE CARDS: each row of YtmmeglpglaogeaaDoorRows.lean that lists a variable, with what it lists TIED to the program's text (the seventh form; the later family's looks); each row that meets fmt, with fmt's text TOLD by the authors' own Lean function (tested against real Go, not proved from fmt's source: count such statements apart). THE CARD IS WHAT COUNTS. Prove the row's statement (the work); the ties are given (YtmmeglpglaogeaaDoorTie.lean); close each card by the builder's one call (the guide's Derived/Test/ToyasCard.lean, 'card_holds'). Laid BY PROGRAM, IN A SANDBOX (cutbox-door.mjs). By AI agents, Wed Nov 11 2026. No macro, syntax, notation, axiom, sorry.
-/
import Derived.Test.YtmmeglpglaogeaaDoorRows
import GoSem.ClaimSeven
namespace Go.Proofs.YtmmeglpglaogeaaDoor
namespace Rows

/-- THE TIED CARD OF 'keepsakelaw02.CrcHashes'. -/
def crcHashesCard : Claim7 := { stood := { row := crcHashesRow, standIns := [], harness := (true, "432c2c557441057d758732b841a10580dc048266ed42d4cd8ea05975af3931b3"), looks := false }, kinds := [], alts := [], laidByText := true, laidKinds := [.data], laidTests := true, laidLooks := .later }
def CrcHashesCardSaid : Prop := Claim7.holds Tryd.pinned (.plain (OpenSpec.ofChange crcHashesSpec)) crcHashesCard

/-- THE SECOND FORM's CARD OF 'keepsakelaw02.CrcHashes'. -/
def crcHashesUptoCard : Claim7 := { stood := { row := crcHashesUptoRow, standIns := [], harness := (true, "432c2c557441057d758732b841a10580dc048266ed42d4cd8ea05975af3931b3"), looks := false }, kinds := [], alts := [], laidByText := true, laidKinds := [.data], laidTests := true, laidLooks := .later }
def CrcHashesUptoCardSaid : Prop := Claim7.holds Tryd.pinned (.plain (OpenSpec.upto crcHashesSpec)) crcHashesUptoCard
end Rows
end Go.Proofs.YtmmeglpglaogeaaDoor
