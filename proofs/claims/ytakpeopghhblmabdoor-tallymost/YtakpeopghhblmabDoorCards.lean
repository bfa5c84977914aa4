/-
  DERIVED. GIVEN WITH THE SEED: THE CARDS: each row of YtakpeopghhblmabDoorRows.lean that lists a variable, with what it lists TIED to the program's text (the seventh form; the later family's looks); each row that meets fmt, with fmt's text TOLD by the authors' own Lean function (tested against real Go, not proved from fmt's source: count such statements apart). THE CARD IS WHAT COUNTS. Prove the row's statement (the work); the ties are given (YtakpeopghhblmabDoorTie.lean); close each card by the builder's one call (the guide's Derived/Test/ToyasCard.lean, 'card_holds'). Laid BY PROGRAM, IN A SANDBOX (cutbox-door.mjs). By AI agents, Wed Nov 11 2026. No macro, syntax, notation, axiom, sorry.
-/
import Derived.Test.YtakpeopghhblmabDoorRows
import GoSem.ClaimSeven
namespace Go.Proofs.YtakpeopghhblmabDoor
namespace Rows

/-- THE TIED CARD OF 'keepsakelaw08.TallyMost'. -/
def tallyMostCard : Claim7 := { stood := { row := tallyMostRow, standIns := [], harness := (true, "dfc76cf0fcede6d3cdec00c06ad12d7c1af12c3e20702bde2b212948205ee78e"), looks := false }, kinds := [], alts := [], laidByText := true, laidKinds := [.data], laidTests := true, laidLooks := .later }
def TallyMostCardSaid : Prop := Claim7.holds Tryd.pinned (.plain (OpenSpec.ofChange tallyMostSpec)) tallyMostCard

/-- THE SECOND FORM's CARD OF 'keepsakelaw08.TallyMost'. -/
def tallyMostUptoCard : Claim7 := { stood := { row := tallyMostUptoRow, standIns := [], harness := (true, "dfc76cf0fcede6d3cdec00c06ad12d7c1af12c3e20702bde2b212948205ee78e"), looks := false }, kinds := [], alts := [], laidByText := true, laidKinds := [.data], laidTests := true, laidLooks := .later }
def TallyMostUptoCardSaid : Prop := Claim7.holds Tryd.pinned (.plain (OpenSpec.upto tallyMostSpec)) tallyMostUptoCard
end Rows
end Go.Proofs.YtakpeopghhblmabDoor
