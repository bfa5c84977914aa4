/-
  DERIVED. GIVEN WITH THE SEED: THE CARDS: each row of YtamfcmmhmfhhkaaGreatDoorRows.lean that lists a variable, with what it lists TIED to the program's text (the seventh form; the later family's looks); each row that meets fmt, with fmt's text TOLD by the authors' own Lean function (tested against real Go, not proved from fmt's source: count such statements apart). THE CARD IS WHAT COUNTS. Prove the row's statement (the work); the ties are given (YtamfcmmhmfhhkaaGreatDoorTie.lean); close each card by the builder's one call (the guide's Derived/Test/ToyasCard.lean, 'card_holds'). Laid BY PROGRAM, IN A SANDBOX (cutbox-door.mjs). By AI agents, Wed Nov 11 2026. No macro, syntax, notation, axiom, sorry.
-/
import Derived.Test.YtamfcmmhmfhhkaaGreatDoorRows
import GoSem.ClaimSeven
namespace Go.Proofs.YtamfcmmhmfhhkaaGreatDoor
namespace Rows

/-- THE TIED CARD OF 'keepsakelaw18.PanesKeys'. -/
def panesKeysCard : Claim7 := { stood := { row := panesKeysRow, standIns := [], harness := (true, "29e5728c93135bf3fe532df1633d55b66cac93b2cc2def4220b852745489eb6d"), looks := true }, kinds := [], alts := [], laidByText := true, laidKinds := [.data, .data, .data, .sentinel, .sentinel, .data], laidTests := true, laidLooks := .later }
def PanesKeysCardSaid : Prop := Claim7.holds Tryz.pinned (.plain (OpenSpec.ofChange panesKeysSpec)) panesKeysCard

/-- THE TIED CARD OF 'keepsakelaw18.PanesAlike'. -/
def panesAlikeCard : Claim7 := { stood := { row := panesAlikeRow, standIns := [], harness := (true, "29e5728c93135bf3fe532df1633d55b66cac93b2cc2def4220b852745489eb6d"), looks := true }, kinds := [], alts := [], laidByText := true, laidKinds := [.data, .data, .data, .sentinel, .sentinel, .data], laidTests := true, laidLooks := .later }
def PanesAlikeCardSaid : Prop := Claim7.holds Tryz.pinned (.plain (OpenSpec.ofChange panesAlikeSpec)) panesAlikeCard

/-- THE SECOND FORM's CARD OF 'keepsakelaw18.PanesKeys'. -/
def panesKeysUptoCard : Claim7 := { stood := { row := panesKeysUptoRow, standIns := [], harness := (true, "29e5728c93135bf3fe532df1633d55b66cac93b2cc2def4220b852745489eb6d"), looks := true }, kinds := [], alts := [], laidByText := true, laidKinds := [.data, .data, .data, .sentinel, .sentinel, .data], laidTests := true, laidLooks := .later }
def PanesKeysUptoCardSaid : Prop := Claim7.holds Tryz.pinned (.plain (OpenSpec.upto panesKeysSpec)) panesKeysUptoCard

/-- THE SECOND FORM's CARD OF 'keepsakelaw18.PanesAlike'. -/
def panesAlikeUptoCard : Claim7 := { stood := { row := panesAlikeUptoRow, standIns := [], harness := (true, "29e5728c93135bf3fe532df1633d55b66cac93b2cc2def4220b852745489eb6d"), looks := true }, kinds := [], alts := [], laidByText := true, laidKinds := [.data, .data, .data, .sentinel, .sentinel, .data], laidTests := true, laidLooks := .later }
def PanesAlikeUptoCardSaid : Prop := Claim7.holds Tryz.pinned (.plain (OpenSpec.upto panesAlikeSpec)) panesAlikeUptoCard
end Rows
end Go.Proofs.YtamfcmmhmfhhkaaGreatDoor
