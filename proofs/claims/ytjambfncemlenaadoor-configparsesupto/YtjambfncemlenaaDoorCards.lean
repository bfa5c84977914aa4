/-
  DERIVED. GIVEN WITH THE SEED: THE CARDS: each row of YtjambfncemlenaaDoorRows.lean that lists a variable, with what it lists TIED to the program's text (the seventh form; the later family's looks); each row that meets fmt, with fmt's text TOLD by the authors' own Lean function (tested against real Go, not proved from fmt's source: count such statements apart). THE CARD IS WHAT COUNTS. Prove the row's statement (the work); the ties are given (YtjambfncemlenaaDoorTie.lean); close each card by the builder's one call (the guide's Derived/Test/ToyasCard.lean, 'card_holds'). Laid BY PROGRAM, IN A SANDBOX (cutbox-door.mjs). By AI agents, Wed Nov 11 2026. No macro, syntax, notation, axiom, sorry.
-/
import Derived.Test.YtjambfncemlenaaDoorRows
import GoSem.ClaimSeven
namespace Go.Proofs.YtjambfncemlenaaDoor
namespace Rows

/-- THE TIED CARD OF 'keepsakelaw11.ConfigChecks'. -/
def configChecksCard : Claim7 := { stood := { row := configChecksRow, standIns := [], harness := (true, "6f560242a624bbb718006fc425cb530789ccd20307bd10e3c6e57fadeece1a07"), looks := true }, kinds := [], alts := [], laidByText := true, laidKinds := [.data, .data, .data, .data], laidTests := true, laidLooks := .later }
def ConfigChecksCardSaid : Prop := Claim7.holds Tryd.pinned (.plain (OpenSpec.ofChange configChecksSpec)) configChecksCard

/-- THE TIED CARD OF 'keepsakelaw11.ConfigReads'. -/
def configReadsCard : Claim7 := { stood := { row := configReadsRow, standIns := [], harness := (true, "6f560242a624bbb718006fc425cb530789ccd20307bd10e3c6e57fadeece1a07"), looks := true }, kinds := [], alts := [], laidByText := true, laidKinds := [.data, .data, .data, .data], laidTests := true, laidLooks := .later }
def ConfigReadsCardSaid : Prop := Claim7.holds Tryd.pinned (.plain (OpenSpec.ofChange configReadsSpec)) configReadsCard

/-- THE TIED CARD OF 'keepsakelaw11.ConfigParses'. -/
def configParsesCard : Claim7 := { stood := { row := configParsesRow, standIns := [], harness := (true, "6f560242a624bbb718006fc425cb530789ccd20307bd10e3c6e57fadeece1a07"), looks := true }, kinds := [], alts := [], laidByText := true, laidKinds := [.data, .data, .data, .data, .sentinel, .sentinel, .data, .pinned], laidTests := true, laidLooks := .later }
def ConfigParsesCardSaid : Prop := Claim7.holds Tryd.pinned (.plain (OpenSpec.ofChange configParsesSpec)) configParsesCard

/-- THE TIED CARD OF 'keepsakelaw11.ConfigItems'. -/
def configItemsCard : Claim7 := { stood := { row := configItemsRow, standIns := [], harness := (true, "6f560242a624bbb718006fc425cb530789ccd20307bd10e3c6e57fadeece1a07"), looks := true }, kinds := [], alts := [], laidByText := true, laidKinds := [.data, .data, .data, .data], laidTests := true, laidLooks := .later }
def ConfigItemsCardSaid : Prop := Claim7.holds Tryd.pinned (.plain (OpenSpec.ofChange configItemsSpec)) configItemsCard

/-- THE TIED CARD OF 'keepsakelaw11.ConfigKeys'. -/
def configKeysCard : Claim7 := { stood := { row := configKeysRow, standIns := [], harness := (true, "6f560242a624bbb718006fc425cb530789ccd20307bd10e3c6e57fadeece1a07"), looks := true }, kinds := [], alts := [], laidByText := true, laidKinds := [.data, .data, .data, .data], laidTests := true, laidLooks := .later }
def ConfigKeysCardSaid : Prop := Claim7.holds Tryd.pinned (.plain (OpenSpec.ofChange configKeysSpec)) configKeysCard

/-- THE SECOND FORM's CARD OF 'keepsakelaw11.ConfigChecks'. -/
def configChecksUptoCard : Claim7 := { stood := { row := configChecksUptoRow, standIns := [], harness := (true, "6f560242a624bbb718006fc425cb530789ccd20307bd10e3c6e57fadeece1a07"), looks := true }, kinds := [], alts := [], laidByText := true, laidKinds := [.data, .data, .data, .data], laidTests := true, laidLooks := .later }
def ConfigChecksUptoCardSaid : Prop := Claim7.holds Tryd.pinned (.plain (OpenSpec.upto configChecksSpec)) configChecksUptoCard

/-- THE SECOND FORM's CARD OF 'keepsakelaw11.ConfigReads'. -/
def configReadsUptoCard : Claim7 := { stood := { row := configReadsUptoRow, standIns := [], harness := (true, "6f560242a624bbb718006fc425cb530789ccd20307bd10e3c6e57fadeece1a07"), looks := true }, kinds := [], alts := [], laidByText := true, laidKinds := [.data, .data, .data, .data], laidTests := true, laidLooks := .later }
def ConfigReadsUptoCardSaid : Prop := Claim7.holds Tryd.pinned (.plain (OpenSpec.upto configReadsSpec)) configReadsUptoCard

/-- THE SECOND FORM's CARD OF 'keepsakelaw11.ConfigParses'. -/
def configParsesUptoCard : Claim7 := { stood := { row := configParsesUptoRow, standIns := [], harness := (true, "6f560242a624bbb718006fc425cb530789ccd20307bd10e3c6e57fadeece1a07"), looks := true }, kinds := [], alts := [], laidByText := true, laidKinds := [.data, .data, .data, .data, .sentinel, .sentinel, .data, .pinned], laidTests := true, laidLooks := .later }
def ConfigParsesUptoCardSaid : Prop := Claim7.holds Tryd.pinned (.plain (OpenSpec.upto configParsesSpec)) configParsesUptoCard

/-- THE SECOND FORM's CARD OF 'keepsakelaw11.ConfigItems'. -/
def configItemsUptoCard : Claim7 := { stood := { row := configItemsUptoRow, standIns := [], harness := (true, "6f560242a624bbb718006fc425cb530789ccd20307bd10e3c6e57fadeece1a07"), looks := true }, kinds := [], alts := [], laidByText := true, laidKinds := [.data, .data, .data, .data], laidTests := true, laidLooks := .later }
def ConfigItemsUptoCardSaid : Prop := Claim7.holds Tryd.pinned (.plain (OpenSpec.upto configItemsSpec)) configItemsUptoCard

/-- THE SECOND FORM's CARD OF 'keepsakelaw11.ConfigKeys'. -/
def configKeysUptoCard : Claim7 := { stood := { row := configKeysUptoRow, standIns := [], harness := (true, "6f560242a624bbb718006fc425cb530789ccd20307bd10e3c6e57fadeece1a07"), looks := true }, kinds := [], alts := [], laidByText := true, laidKinds := [.data, .data, .data, .data], laidTests := true, laidLooks := .later }
def ConfigKeysUptoCardSaid : Prop := Claim7.holds Tryd.pinned (.plain (OpenSpec.upto configKeysSpec)) configKeysUptoCard
end Rows
end Go.Proofs.YtjambfncemlenaaDoor
