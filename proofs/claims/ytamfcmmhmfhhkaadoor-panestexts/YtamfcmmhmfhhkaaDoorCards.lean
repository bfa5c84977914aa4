/-
  DERIVED. GIVEN WITH THE SEED: THE CARDS: each row of YtamfcmmhmfhhkaaDoorRows.lean that lists a variable, with what it lists TIED to the program's text (the seventh form; the later family's looks); each row that meets fmt, with fmt's text TOLD by the authors' own Lean function (tested against real Go, not proved from fmt's source: count such statements apart). THE CARD IS WHAT COUNTS. Prove the row's statement (the work); the ties are given (YtamfcmmhmfhhkaaDoorTie.lean); close each card by the builder's one call (the guide's Derived/Test/ToyasCard.lean, 'card_holds'). Laid BY PROGRAM, IN A SANDBOX (cutbox-door.mjs). By AI agents, Wed Nov 11 2026. No macro, syntax, notation, axiom, sorry.
-/
import Derived.Test.YtamfcmmhmfhhkaaDoorRows
import GoSem.ClaimSeven
namespace Go.Proofs.YtamfcmmhmfhhkaaDoor
namespace Rows

/-- THE TIED CARD OF 'keepsakelaw18.PanesLines'. -/
def panesLinesCard : Claim7 := { stood := { row := panesLinesRow, standIns := [], harness := (true, "24dbfba91a04d6c10a185818739d1dd3959cbb1e8ee230b797801b9d78c4261a"), looks := true }, kinds := [], alts := [], laidByText := true, laidKinds := [.data, .data, .data, .sentinel, .sentinel, .data], laidTests := true, laidLooks := .later }
def PanesLinesCardSaid : Prop := Claim7.holds Tryd.pinned (.plain (OpenSpec.ofChange panesLinesSpec)) panesLinesCard

/-- THE TIED CARD OF 'keepsakelaw18.PanesTexts'. -/
def panesTextsCard : Claim7 := { stood := { row := panesTextsRow, standIns := [], harness := (true, "24dbfba91a04d6c10a185818739d1dd3959cbb1e8ee230b797801b9d78c4261a"), looks := true }, kinds := [], alts := [], laidByText := true, laidKinds := [.data, .data, .data, .sentinel, .sentinel, .data], laidTests := true, laidLooks := .later }
def PanesTextsCardSaid : Prop := Claim7.holds Tryd.pinned (.plain (OpenSpec.ofChange panesTextsSpec)) panesTextsCard

/-- THE TIED CARD OF 'keepsakelaw18.PanesBack'. -/
def panesBackCard : Claim7 := { stood := { row := panesBackRow, standIns := [], harness := (true, "24dbfba91a04d6c10a185818739d1dd3959cbb1e8ee230b797801b9d78c4261a"), looks := true }, kinds := [], alts := [], laidByText := true, laidKinds := [.data, .data, .data, .sentinel, .sentinel, .data], laidTests := true, laidLooks := .later }
def PanesBackCardSaid : Prop := Claim7.holds Tryd.pinned (.plain (OpenSpec.ofChange panesBackSpec)) panesBackCard

/-- THE SECOND FORM's CARD OF 'keepsakelaw18.PanesLines'. -/
def panesLinesUptoCard : Claim7 := { stood := { row := panesLinesUptoRow, standIns := [], harness := (true, "24dbfba91a04d6c10a185818739d1dd3959cbb1e8ee230b797801b9d78c4261a"), looks := true }, kinds := [], alts := [], laidByText := true, laidKinds := [.data, .data, .data, .sentinel, .sentinel, .data], laidTests := true, laidLooks := .later }
def PanesLinesUptoCardSaid : Prop := Claim7.holds Tryd.pinned (.plain (OpenSpec.upto panesLinesSpec)) panesLinesUptoCard

/-- THE SECOND FORM's CARD OF 'keepsakelaw18.PanesTexts'. -/
def panesTextsUptoCard : Claim7 := { stood := { row := panesTextsUptoRow, standIns := [], harness := (true, "24dbfba91a04d6c10a185818739d1dd3959cbb1e8ee230b797801b9d78c4261a"), looks := true }, kinds := [], alts := [], laidByText := true, laidKinds := [.data, .data, .data, .sentinel, .sentinel, .data], laidTests := true, laidLooks := .later }
def PanesTextsUptoCardSaid : Prop := Claim7.holds Tryd.pinned (.plain (OpenSpec.upto panesTextsSpec)) panesTextsUptoCard

/-- THE SECOND FORM's CARD OF 'keepsakelaw18.PanesBack'. -/
def panesBackUptoCard : Claim7 := { stood := { row := panesBackUptoRow, standIns := [], harness := (true, "24dbfba91a04d6c10a185818739d1dd3959cbb1e8ee230b797801b9d78c4261a"), looks := true }, kinds := [], alts := [], laidByText := true, laidKinds := [.data, .data, .data, .sentinel, .sentinel, .data], laidTests := true, laidLooks := .later }
def PanesBackUptoCardSaid : Prop := Claim7.holds Tryd.pinned (.plain (OpenSpec.upto panesBackSpec)) panesBackUptoCard
end Rows
end Go.Proofs.YtamfcmmhmfhhkaaDoor
