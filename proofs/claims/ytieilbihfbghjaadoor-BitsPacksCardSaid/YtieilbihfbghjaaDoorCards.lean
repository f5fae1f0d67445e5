/-
  DERIVED. GIVEN WITH THE SEED: THE CARDS: each row of YtieilbihfbghjaaDoorRows.lean that lists a variable, with what it lists TIED to the program's text (the seventh form; the later family's looks); each row that meets fmt, with fmt's text TOLD by the authors' own Lean function (tested against real Go, not proved from fmt's source: count such statements apart). THE CARD IS WHAT COUNTS. Prove the row's statement (the work); the ties are given (YtieilbihfbghjaaDoorTie.lean); close each card by the builder's one call (the guide's Derived/Test/ToyasCard.lean, 'card_holds'). Laid BY PROGRAM, IN A SANDBOX (cutbox-door.mjs). By AI agents, Wed Nov 11 2026. No macro, syntax, notation, axiom, sorry.
-/
import Derived.Test.YtieilbihfbghjaaDoorRows
import GoSem.ClaimSeven
namespace Go.Proofs.YtieilbihfbghjaaDoor
namespace Rows

/-- THE TIED CARD OF 'concordlaw03.BitsHash'. -/
def bitsHashCard : Claim7 := { stood := { row := bitsHashRow, standIns := [], harness := (true, "0175be1d45c71f72c9e24cc777196d2109a1bcfa481a0a981b99e9b7254a8b0b"), looks := true }, kinds := [], alts := [], laidByText := true, laidKinds := [.data], laidTests := true, laidLooks := .later }
def BitsHashCardSaid : Prop := Claim7.holds Tryd.pinned (.plain (OpenSpec.ofChange bitsHashSpec)) bitsHashCard

/-- THE TIED CARD OF 'concordlaw03.BitsSlots'. -/
def bitsSlotsCard : Claim7 := { stood := { row := bitsSlotsRow, standIns := [], harness := (true, "0175be1d45c71f72c9e24cc777196d2109a1bcfa481a0a981b99e9b7254a8b0b"), looks := true }, kinds := [], alts := [], laidByText := true, laidKinds := [.data], laidTests := true, laidLooks := .later }
def BitsSlotsCardSaid : Prop := Claim7.holds Tryd.pinned (.plain (OpenSpec.ofChange bitsSlotsSpec)) bitsSlotsCard

/-- THE TIED CARD OF 'concordlaw03.BitsMaps'. -/
def bitsMapsCard : Claim7 := { stood := { row := bitsMapsRow, standIns := [], harness := (true, "0175be1d45c71f72c9e24cc777196d2109a1bcfa481a0a981b99e9b7254a8b0b"), looks := true }, kinds := [], alts := [], laidByText := true, laidKinds := [.data], laidTests := true, laidLooks := .later }
def BitsMapsCardSaid : Prop := Claim7.holds Tryd.pinned (.plain (OpenSpec.ofChange bitsMapsSpec)) bitsMapsCard

/-- THE TIED CARD OF 'concordlaw03.BitsRanks'. -/
def bitsRanksCard : Claim7 := { stood := { row := bitsRanksRow, standIns := [], harness := (true, "0175be1d45c71f72c9e24cc777196d2109a1bcfa481a0a981b99e9b7254a8b0b"), looks := true }, kinds := [], alts := [], laidByText := true, laidKinds := [.data], laidTests := true, laidLooks := .later }
def BitsRanksCardSaid : Prop := Claim7.holds Tryd.pinned (.plain (OpenSpec.ofChange bitsRanksSpec)) bitsRanksCard

/-- THE TIED CARD OF 'concordlaw03.BitsTall'. -/
def bitsTallCard : Claim7 := { stood := { row := bitsTallRow, standIns := [], harness := (true, "0175be1d45c71f72c9e24cc777196d2109a1bcfa481a0a981b99e9b7254a8b0b"), looks := true }, kinds := [], alts := [], laidByText := true, laidKinds := [.data], laidTests := true, laidLooks := .later }
def BitsTallCardSaid : Prop := Claim7.holds Tryd.pinned (.plain (OpenSpec.ofChange bitsTallSpec)) bitsTallCard

/-- THE TIED CARD OF 'concordlaw03.BitsPacks'. -/
def bitsPacksCard : Claim7 := { stood := { row := bitsPacksRow, standIns := [], harness := (true, "0175be1d45c71f72c9e24cc777196d2109a1bcfa481a0a981b99e9b7254a8b0b"), looks := true }, kinds := [], alts := [], laidByText := true, laidKinds := [.data], laidTests := true, laidLooks := .later }
def BitsPacksCardSaid : Prop := Claim7.holds Tryd.pinned (.plain (OpenSpec.ofChange bitsPacksSpec)) bitsPacksCard

/-- THE SECOND FORM's CARD OF 'concordlaw03.BitsHash'. -/
def bitsHashUptoCard : Claim7 := { stood := { row := bitsHashUptoRow, standIns := [], harness := (true, "0175be1d45c71f72c9e24cc777196d2109a1bcfa481a0a981b99e9b7254a8b0b"), looks := true }, kinds := [], alts := [], laidByText := true, laidKinds := [.data], laidTests := true, laidLooks := .later }
def BitsHashUptoCardSaid : Prop := Claim7.holds Tryd.pinned (.plain (OpenSpec.upto bitsHashSpec)) bitsHashUptoCard

/-- THE SECOND FORM's CARD OF 'concordlaw03.BitsSlots'. -/
def bitsSlotsUptoCard : Claim7 := { stood := { row := bitsSlotsUptoRow, standIns := [], harness := (true, "0175be1d45c71f72c9e24cc777196d2109a1bcfa481a0a981b99e9b7254a8b0b"), looks := true }, kinds := [], alts := [], laidByText := true, laidKinds := [.data], laidTests := true, laidLooks := .later }
def BitsSlotsUptoCardSaid : Prop := Claim7.holds Tryd.pinned (.plain (OpenSpec.upto bitsSlotsSpec)) bitsSlotsUptoCard

/-- THE SECOND FORM's CARD OF 'concordlaw03.BitsMaps'. -/
def bitsMapsUptoCard : Claim7 := { stood := { row := bitsMapsUptoRow, standIns := [], harness := (true, "0175be1d45c71f72c9e24cc777196d2109a1bcfa481a0a981b99e9b7254a8b0b"), looks := true }, kinds := [], alts := [], laidByText := true, laidKinds := [.data], laidTests := true, laidLooks := .later }
def BitsMapsUptoCardSaid : Prop := Claim7.holds Tryd.pinned (.plain (OpenSpec.upto bitsMapsSpec)) bitsMapsUptoCard

/-- THE SECOND FORM's CARD OF 'concordlaw03.BitsRanks'. -/
def bitsRanksUptoCard : Claim7 := { stood := { row := bitsRanksUptoRow, standIns := [], harness := (true, "0175be1d45c71f72c9e24cc777196d2109a1bcfa481a0a981b99e9b7254a8b0b"), looks := true }, kinds := [], alts := [], laidByText := true, laidKinds := [.data], laidTests := true, laidLooks := .later }
def BitsRanksUptoCardSaid : Prop := Claim7.holds Tryd.pinned (.plain (OpenSpec.upto bitsRanksSpec)) bitsRanksUptoCard

/-- THE SECOND FORM's CARD OF 'concordlaw03.BitsTall'. -/
def bitsTallUptoCard : Claim7 := { stood := { row := bitsTallUptoRow, standIns := [], harness := (true, "0175be1d45c71f72c9e24cc777196d2109a1bcfa481a0a981b99e9b7254a8b0b"), looks := true }, kinds := [], alts := [], laidByText := true, laidKinds := [.data], laidTests := true, laidLooks := .later }
def BitsTallUptoCardSaid : Prop := Claim7.holds Tryd.pinned (.plain (OpenSpec.upto bitsTallSpec)) bitsTallUptoCard

/-- THE SECOND FORM's CARD OF 'concordlaw03.BitsPacks'. -/
def bitsPacksUptoCard : Claim7 := { stood := { row := bitsPacksUptoRow, standIns := [], harness := (true, "0175be1d45c71f72c9e24cc777196d2109a1bcfa481a0a981b99e9b7254a8b0b"), looks := true }, kinds := [], alts := [], laidByText := true, laidKinds := [.data], laidTests := true, laidLooks := .later }
def BitsPacksUptoCardSaid : Prop := Claim7.holds Tryd.pinned (.plain (OpenSpec.upto bitsPacksSpec)) bitsPacksUptoCard
end Rows
end Go.Proofs.YtieilbihfbghjaaDoor
