/-
  DERIVED. GIVEN WITH THE SEED: THE CARDS: each row of YtdcpmpbfnfjncaaDoorRows.lean that lists a variable, with what it lists TIED to the program's text (the seventh form; the later family's looks); each row that meets fmt, with fmt's text TOLD by the authors' own Lean function (tested against real Go, not proved from fmt's source: count such statements apart). THE CARD IS WHAT COUNTS. Prove the row's statement (the work); the ties are given (YtdcpmpbfnfjncaaDoorTie.lean); close each card by the builder's one call (the guide's Derived/Test/ToyasCard.lean, 'card_holds'). Laid BY PROGRAM, IN A SANDBOX (cutbox-door.mjs). By AI agents, Wed Nov 11 2026. No macro, syntax, notation, axiom, sorry.
-/
import Derived.Test.YtdcpmpbfnfjncaaDoorRows
import GoSem.ClaimSeven
namespace Go.Proofs.YtdcpmpbfnfjncaaDoor
namespace Rows

/-- THE TIED CARD OF 'keepsakelaw11.ConfigStates'. -/
def configStatesCard : Claim7 := { stood := { row := configStatesRow, standIns := [], harness := (true, "d621e9bd5b3f0bf1fafa49b8bbc139ef9587963024887c2dd06625b4a2c73dac"), looks := false }, kinds := [], alts := [], laidByText := true, laidKinds := [.data, .data, .data, .data], laidTests := true, laidLooks := .later }
def ConfigStatesCardSaid : Prop := Claim7.holds Tryd.pinned (.plain (OpenSpec.ofChange configStatesSpec)) configStatesCard

/-- THE SECOND FORM's CARD OF 'keepsakelaw11.ConfigStates'. -/
def configStatesUptoCard : Claim7 := { stood := { row := configStatesUptoRow, standIns := [], harness := (true, "d621e9bd5b3f0bf1fafa49b8bbc139ef9587963024887c2dd06625b4a2c73dac"), looks := false }, kinds := [], alts := [], laidByText := true, laidKinds := [.data, .data, .data, .data], laidTests := true, laidLooks := .later }
def ConfigStatesUptoCardSaid : Prop := Claim7.holds Tryd.pinned (.plain (OpenSpec.upto configStatesSpec)) configStatesUptoCard
end Rows
end Go.Proofs.YtdcpmpbfnfjncaaDoor
