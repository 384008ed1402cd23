/-
  DERIVED. GIVEN WITH THE SEED: THE CARDS: each row of YtmffnkfohmbbeaaGreatDoorRows.lean that lists a variable, with what it lists TIED to the program's text (the seventh form; the later family's looks); each row that meets fmt, with fmt's text TOLD by the authors' own Lean function (tested against real Go, not proved from fmt's source: count such statements apart). THE CARD IS WHAT COUNTS. Prove the row's statement (the work); the ties are given (YtmffnkfohmbbeaaGreatDoorTie.lean); close each card by the builder's one call (the guide's Derived/Test/ToyasCard.lean, 'card_holds'). Laid BY PROGRAM, IN A SANDBOX (cutbox-door.mjs). By AI agents, Wed Nov 11 2026. No macro, syntax, notation, axiom, sorry.
-/
import Derived.Test.YtmffnkfohmbbeaaGreatDoorRows
import GoSem.ClaimSeven
namespace Go.Proofs.YtmffnkfohmbbeaaGreatDoor
namespace Rows

/-- THE TIED CARD OF 'clearancelaw12.CommandTells'. -/
def commandTellsCard : Claim7 := { stood := { row := commandTellsRow, standIns := [], harness := (true, "ee27921b18de2edfbb0058487c0383167c1d708c5a741ac3b5aeca61daad0881"), looks := false }, kinds := [], alts := [], laidByText := true, laidKinds := [.data], laidTests := true, laidLooks := .later }
def CommandTellsCardSaid : Prop := Claim7.holds Tryz.pinned (.plain (OpenSpec.ofChange commandTellsSpec)) commandTellsCard

/-- THE TIED CARD OF 'clearancelaw12.CommandBack'. -/
def commandBackCard : Claim7 := { stood := { row := commandBackRow, standIns := [], harness := (true, "ee27921b18de2edfbb0058487c0383167c1d708c5a741ac3b5aeca61daad0881"), looks := false }, kinds := [], alts := [], laidByText := true, laidKinds := [.data], laidTests := true, laidLooks := .later }
def CommandBackCardSaid : Prop := Claim7.holds Tryz.pinned (.plain (OpenSpec.ofChange commandBackSpec)) commandBackCard

/-- THE TIED CARD OF 'clearancelaw12.CommandAgain'. -/
def commandAgainCard : Claim7 := { stood := { row := commandAgainRow, standIns := [], harness := (true, "ee27921b18de2edfbb0058487c0383167c1d708c5a741ac3b5aeca61daad0881"), looks := false }, kinds := [], alts := [], laidByText := true, laidKinds := [.data], laidTests := true, laidLooks := .later }
def CommandAgainCardSaid : Prop := Claim7.holds Tryz.pinned (.plain (OpenSpec.ofChange commandAgainSpec)) commandAgainCard

/-- THE SECOND FORM's CARD OF 'clearancelaw12.CommandTells'. -/
def commandTellsUptoCard : Claim7 := { stood := { row := commandTellsUptoRow, standIns := [], harness := (true, "ee27921b18de2edfbb0058487c0383167c1d708c5a741ac3b5aeca61daad0881"), looks := false }, kinds := [], alts := [], laidByText := true, laidKinds := [.data], laidTests := true, laidLooks := .later }
def CommandTellsUptoCardSaid : Prop := Claim7.holds Tryz.pinned (.plain (OpenSpec.upto commandTellsSpec)) commandTellsUptoCard

/-- THE SECOND FORM's CARD OF 'clearancelaw12.CommandBack'. -/
def commandBackUptoCard : Claim7 := { stood := { row := commandBackUptoRow, standIns := [], harness := (true, "ee27921b18de2edfbb0058487c0383167c1d708c5a741ac3b5aeca61daad0881"), looks := false }, kinds := [], alts := [], laidByText := true, laidKinds := [.data], laidTests := true, laidLooks := .later }
def CommandBackUptoCardSaid : Prop := Claim7.holds Tryz.pinned (.plain (OpenSpec.upto commandBackSpec)) commandBackUptoCard

/-- THE SECOND FORM's CARD OF 'clearancelaw12.CommandAgain'. -/
def commandAgainUptoCard : Claim7 := { stood := { row := commandAgainUptoRow, standIns := [], harness := (true, "ee27921b18de2edfbb0058487c0383167c1d708c5a741ac3b5aeca61daad0881"), looks := false }, kinds := [], alts := [], laidByText := true, laidKinds := [.data], laidTests := true, laidLooks := .later }
def CommandAgainUptoCardSaid : Prop := Claim7.holds Tryz.pinned (.plain (OpenSpec.upto commandAgainSpec)) commandAgainUptoCard
end Rows
end Go.Proofs.YtmffnkfohmbbeaaGreatDoor
