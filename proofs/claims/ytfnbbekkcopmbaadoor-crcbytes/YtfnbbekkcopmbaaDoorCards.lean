/-
  DERIVED. GIVEN WITH THE SEED: THE CARDS: each row of YtfnbbekkcopmbaaDoorRows.lean that lists a variable, with what it lists TIED to the program's text (the seventh form; the later family's looks); each row that meets fmt, with fmt's text TOLD by the authors' own Lean function (tested against real Go, not proved from fmt's source: count such statements apart). THE CARD IS WHAT COUNTS. Prove the row's statement (the work); the ties are given (YtfnbbekkcopmbaaDoorTie.lean); close each card by the builder's one call (the guide's Derived/Test/ToyasCard.lean, 'card_holds'). Laid BY PROGRAM, IN A SANDBOX (cutbox-door.mjs). By AI agents, Wed Nov 11 2026. No macro, syntax, notation, axiom, sorry.
-/
import Derived.Test.YtfnbbekkcopmbaaDoorRows
import GoSem.ClaimSeven
namespace Go.Proofs.YtfnbbekkcopmbaaDoor
namespace Rows

/-- THE TIED CARD OF 'keepsakelaw02.CrcBytes'. -/
def crcBytesCard : Claim7 := { stood := { row := crcBytesRow, standIns := [], harness := (true, "4e4b76db67944281b2f2a354ee9f16a339ea8403c77a9c9e745d7b4149d99ab3"), looks := false }, kinds := [], alts := [], laidByText := true, laidKinds := [.data], laidTests := true, laidLooks := .later }
def CrcBytesCardSaid : Prop := Claim7.holds Tryd.pinned (.plain (OpenSpec.ofChange crcBytesSpec)) crcBytesCard

/-- THE TIED CARD OF 'keepsakelaw02.CrcHashes'. -/
def crcHashesCard : Claim7 := { stood := { row := crcHashesRow, standIns := [], harness := (true, "4e4b76db67944281b2f2a354ee9f16a339ea8403c77a9c9e745d7b4149d99ab3"), looks := false }, kinds := [], alts := [], laidByText := true, laidKinds := [.data], laidTests := true, laidLooks := .later }
def CrcHashesCardSaid : Prop := Claim7.holds Tryd.pinned (.plain (OpenSpec.ofChange crcHashesSpec)) crcHashesCard

/-- THE SECOND FORM's CARD OF 'keepsakelaw02.CrcBytes'. -/
def crcBytesUptoCard : Claim7 := { stood := { row := crcBytesUptoRow, standIns := [], harness := (true, "4e4b76db67944281b2f2a354ee9f16a339ea8403c77a9c9e745d7b4149d99ab3"), looks := false }, kinds := [], alts := [], laidByText := true, laidKinds := [.data], laidTests := true, laidLooks := .later }
def CrcBytesUptoCardSaid : Prop := Claim7.holds Tryd.pinned (.plain (OpenSpec.upto crcBytesSpec)) crcBytesUptoCard

/-- THE SECOND FORM's CARD OF 'keepsakelaw02.CrcHashes'. -/
def crcHashesUptoCard : Claim7 := { stood := { row := crcHashesUptoRow, standIns := [], harness := (true, "4e4b76db67944281b2f2a354ee9f16a339ea8403c77a9c9e745d7b4149d99ab3"), looks := false }, kinds := [], alts := [], laidByText := true, laidKinds := [.data], laidTests := true, laidLooks := .later }
def CrcHashesUptoCardSaid : Prop := Claim7.holds Tryd.pinned (.plain (OpenSpec.upto crcHashesSpec)) crcHashesUptoCard
end Rows
end Go.Proofs.YtfnbbekkcopmbaaDoor
