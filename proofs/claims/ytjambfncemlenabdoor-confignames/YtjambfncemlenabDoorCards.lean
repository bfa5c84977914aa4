/-
  DERIVED. GIVEN WITH THE SEED: THE CARDS: each row of YtjambfncemlenabDoorRows.lean that lists a variable, with what it lists TIED to the program's text (the seventh form; the later family's looks); each row that meets fmt, with fmt's text TOLD by the authors' own Lean function (tested against real Go, not proved from fmt's source: count such statements apart). THE CARD IS WHAT COUNTS. Prove the row's statement (the work); the ties are given (YtjambfncemlenabDoorTie.lean); close each card by the builder's one call (the guide's Derived/Test/ToyasCard.lean, 'card_holds'). Laid BY PROGRAM, IN A SANDBOX (cutbox-door.mjs). By AI agents, Wed Nov 11 2026. No macro, syntax, notation, axiom, sorry.
-/
import Derived.Test.YtjambfncemlenabDoorRows
import GoSem.ClaimSeven
namespace Go.Proofs.YtjambfncemlenabDoor
namespace Rows

/-- THE TIED CARD OF 'keepsakelaw11.ConfigStates'. -/
def configStatesCard : Claim7 := { stood := { row := configStatesRow, standIns := [], harness := (true, "fc59b6b0ad69e36e641d64f58bd7ab7a83875ff918b2395aaa2d8b84bbe69919"), looks := false }, kinds := [], alts := [], laidByText := true, laidKinds := [.data, .data, .data, .data], laidTests := true, laidLooks := .later }
def ConfigStatesCardSaid : Prop := Claim7.holds Tryd.pinned (.plain (OpenSpec.ofChange configStatesSpec)) configStatesCard

/-- THE TIED CARD OF 'keepsakelaw11.ConfigNames'. -/
def configNamesCard : Claim7 := { stood := { row := configNamesRow, standIns := [], harness := (true, "fc59b6b0ad69e36e641d64f58bd7ab7a83875ff918b2395aaa2d8b84bbe69919"), looks := false }, kinds := [], alts := [], laidByText := true, laidKinds := [.data, .data, .data, .data], laidTests := true, laidLooks := .later }
def ConfigNamesCardSaid : Prop := Claim7.holds Tryd.pinned (.plain (OpenSpec.ofChange configNamesSpec)) configNamesCard

/-- THE SECOND FORM's CARD OF 'keepsakelaw11.ConfigStates'. -/
def configStatesUptoCard : Claim7 := { stood := { row := configStatesUptoRow, standIns := [], harness := (true, "fc59b6b0ad69e36e641d64f58bd7ab7a83875ff918b2395aaa2d8b84bbe69919"), looks := false }, kinds := [], alts := [], laidByText := true, laidKinds := [.data, .data, .data, .data], laidTests := true, laidLooks := .later }
def ConfigStatesUptoCardSaid : Prop := Claim7.holds Tryd.pinned (.plain (OpenSpec.upto configStatesSpec)) configStatesUptoCard

/-- THE SECOND FORM's CARD OF 'keepsakelaw11.ConfigNames'. -/
def configNamesUptoCard : Claim7 := { stood := { row := configNamesUptoRow, standIns := [], harness := (true, "fc59b6b0ad69e36e641d64f58bd7ab7a83875ff918b2395aaa2d8b84bbe69919"), looks := false }, kinds := [], alts := [], laidByText := true, laidKinds := [.data, .data, .data, .data], laidTests := true, laidLooks := .later }
def ConfigNamesUptoCardSaid : Prop := Claim7.holds Tryd.pinned (.plain (OpenSpec.upto configNamesSpec)) configNamesUptoCard
end Rows
end Go.Proofs.YtjambfncemlenabDoor
