/-
  DERIVED. GIVEN WITH THE SEED: THE CARDS: each row of YtkolkimmhlmlgaaDoorRows.lean that lists a variable, with what it lists TIED to the program's text (the seventh form; the later family's looks); each row that meets fmt, with fmt's text TOLD by the authors' own Lean function (tested against real Go, not proved from fmt's source: count such statements apart). THE CARD IS WHAT COUNTS. Prove the row's statement (the work); the ties are given (YtkolkimmhlmlgaaDoorTie.lean); close each card by the builder's one call (the guide's Derived/Test/ToyasCard.lean, 'card_holds'). Laid BY PROGRAM, IN A SANDBOX (cutbox-door.mjs). By AI agents, Wed Nov 11 2026. No macro, syntax, notation, axiom, sorry.
-/
import Derived.Test.YtkolkimmhlmlgaaDoorRows
import GoSem.ClaimSeven
namespace Go.Proofs.YtkolkimmhlmlgaaDoor
namespace Rows

/-- THE TIED CARD OF 'concordlaw07.SetsPlay'. -/
def setsPlayCard : Claim7 := { stood := { row := setsPlayRow, standIns := [], harness := (true, "f7aa2a9848ccf9bb80f76ac6250c4b598997381affcdf8c4fd523e5916d0fb6b"), looks := true }, kinds := [], alts := [], laidByText := true, laidKinds := [.handle], laidTests := true, laidLooks := .later }
def SetsPlayCardSaid : Prop := Claim7.holds Tryd.pinned (.plain (OpenSpec.ofChange setsPlaySpec)) setsPlayCard

/-- THE TIED CARD OF 'concordlaw07.SetsBack'. -/
def setsBackCard : Claim7 := { stood := { row := setsBackRow, standIns := [], harness := (true, "f7aa2a9848ccf9bb80f76ac6250c4b598997381affcdf8c4fd523e5916d0fb6b"), looks := true }, kinds := [], alts := [], laidByText := true, laidKinds := [.handle], laidTests := true, laidLooks := .later }
def SetsBackCardSaid : Prop := Claim7.holds Tryd.pinned (.plain (OpenSpec.ofChange setsBackSpec)) setsBackCard

/-- THE TIED CARD OF 'concordlaw07.SetsKeep'. -/
def setsKeepCard : Claim7 := { stood := { row := setsKeepRow, standIns := [], harness := (true, "f7aa2a9848ccf9bb80f76ac6250c4b598997381affcdf8c4fd523e5916d0fb6b"), looks := true }, kinds := [], alts := [], laidByText := true, laidKinds := [.handle], laidTests := true, laidLooks := .later }
def SetsKeepCardSaid : Prop := Claim7.holds Tryd.pinned (.plain (OpenSpec.ofChange setsKeepSpec)) setsKeepCard

/-- THE SECOND FORM's CARD OF 'concordlaw07.SetsPlay'. -/
def setsPlayUptoCard : Claim7 := { stood := { row := setsPlayUptoRow, standIns := [], harness := (true, "f7aa2a9848ccf9bb80f76ac6250c4b598997381affcdf8c4fd523e5916d0fb6b"), looks := true }, kinds := [], alts := [], laidByText := true, laidKinds := [.handle], laidTests := true, laidLooks := .later }
def SetsPlayUptoCardSaid : Prop := Claim7.holds Tryd.pinned (.plain (OpenSpec.upto setsPlaySpec)) setsPlayUptoCard

/-- THE SECOND FORM's CARD OF 'concordlaw07.SetsBack'. -/
def setsBackUptoCard : Claim7 := { stood := { row := setsBackUptoRow, standIns := [], harness := (true, "f7aa2a9848ccf9bb80f76ac6250c4b598997381affcdf8c4fd523e5916d0fb6b"), looks := true }, kinds := [], alts := [], laidByText := true, laidKinds := [.handle], laidTests := true, laidLooks := .later }
def SetsBackUptoCardSaid : Prop := Claim7.holds Tryd.pinned (.plain (OpenSpec.upto setsBackSpec)) setsBackUptoCard

/-- THE SECOND FORM's CARD OF 'concordlaw07.SetsKeep'. -/
def setsKeepUptoCard : Claim7 := { stood := { row := setsKeepUptoRow, standIns := [], harness := (true, "f7aa2a9848ccf9bb80f76ac6250c4b598997381affcdf8c4fd523e5916d0fb6b"), looks := true }, kinds := [], alts := [], laidByText := true, laidKinds := [.handle], laidTests := true, laidLooks := .later }
def SetsKeepUptoCardSaid : Prop := Claim7.holds Tryd.pinned (.plain (OpenSpec.upto setsKeepSpec)) setsKeepUptoCard
end Rows
end Go.Proofs.YtkolkimmhlmlgaaDoor
