/-
  DERIVED. GIVEN WITH THE SEED: THE CARDS: each row of YtipogkgolbmgkaaDoorRows.lean that lists a variable, with what it lists TIED to the program's text (the seventh form; the later family's looks); each row that meets fmt, with fmt's text TOLD by the authors' own Lean function (tested against real Go, not proved from fmt's source: count such statements apart). THE CARD IS WHAT COUNTS. Prove the row's statement (the work); the ties are given (YtipogkgolbmgkaaDoorTie.lean); close each card by the builder's one call (the guide's Derived/Test/ToyasCard.lean, 'card_holds'). Laid BY PROGRAM, IN A SANDBOX (cutbox-door.mjs). By AI agents, Wed Nov 11 2026. No macro, syntax, notation, axiom, sorry.
-/
import Derived.Test.YtipogkgolbmgkaaDoorRows
import GoSem.ClaimSeven
namespace Go.Proofs.YtipogkgolbmgkaaDoor
namespace Rows

/-- THE TIED CARD OF 'concordlaw05.ThreadNil'. -/
def threadNilCard : Claim7 := { stood := { row := threadNilRow, standIns := [], harness := (true, "cda3bfeda4f31591b3575dfe571a8fc3e577120a3d91a817f69971b718430b72"), looks := true }, kinds := [], alts := [], laidByText := true, laidKinds := [.handle], laidTests := true, laidLooks := .later }
def ThreadNilCardSaid : Prop := Claim7.holds Tryd.pinned (.plain (OpenSpec.ofChange threadNilSpec)) threadNilCard

/-- THE SECOND FORM's CARD OF 'concordlaw05.ThreadNil'. -/
def threadNilUptoCard : Claim7 := { stood := { row := threadNilUptoRow, standIns := [], harness := (true, "cda3bfeda4f31591b3575dfe571a8fc3e577120a3d91a817f69971b718430b72"), looks := true }, kinds := [], alts := [], laidByText := true, laidKinds := [.handle], laidTests := true, laidLooks := .later }
def ThreadNilUptoCardSaid : Prop := Claim7.holds Tryd.pinned (.plain (OpenSpec.upto threadNilSpec)) threadNilUptoCard
end Rows
end Go.Proofs.YtipogkgolbmgkaaDoor
