/-
  DERIVED. GIVEN WITH THE SEED: THE CARDS: each row of YtcegiiaeeajfpaaGreatDoorRows.lean that lists a variable, with what it lists TIED to the program's text (the seventh form; the later family's looks); each row that meets fmt, with fmt's text TOLD by the authors' own Lean function (tested against real Go, not proved from fmt's source: count such statements apart). THE CARD IS WHAT COUNTS. Prove the row's statement (the work); the ties are given (YtcegiiaeeajfpaaGreatDoorTie.lean); close each card by the builder's one call (the guide's Derived/Test/ToyasCard.lean, 'card_holds'). Laid BY PROGRAM, IN A SANDBOX (cutbox-door.mjs). By AI agents, Wed Nov 11 2026. No macro, syntax, notation, axiom, sorry.
-/
import Derived.Test.YtcegiiaeeajfpaaGreatDoorRows
import GoSem.ClaimSeven
namespace Go.Proofs.YtcegiiaeeajfpaaGreatDoor
namespace Rows

/-- THE TIED CARD OF 'clearancelaw12.CommandTells'. -/
def commandTellsCard : Claim7 := { stood := { row := commandTellsRow, standIns := [], harness := (true, "7521cebef3a1c476b2d0e86e7d095977e28e868cc54cc7846965540af1afffae"), looks := false }, kinds := [], alts := [], laidByText := true, laidKinds := [.data], laidTests := true, laidLooks := .later }
def CommandTellsCardSaid : Prop := Claim7.holds Tryz.pinned (.plain (OpenSpec.ofChange commandTellsSpec)) commandTellsCard

/-- THE TIED CARD OF 'clearancelaw12.CommandBack'. -/
def commandBackCard : Claim7 := { stood := { row := commandBackRow, standIns := [], harness := (true, "7521cebef3a1c476b2d0e86e7d095977e28e868cc54cc7846965540af1afffae"), looks := false }, kinds := [], alts := [], laidByText := true, laidKinds := [.data], laidTests := true, laidLooks := .later }
def CommandBackCardSaid : Prop := Claim7.holds Tryz.pinned (.plain (OpenSpec.ofChange commandBackSpec)) commandBackCard

/-- THE TIED CARD OF 'clearancelaw12.CommandAgain'. -/
def commandAgainCard : Claim7 := { stood := { row := commandAgainRow, standIns := [], harness := (true, "7521cebef3a1c476b2d0e86e7d095977e28e868cc54cc7846965540af1afffae"), looks := false }, kinds := [], alts := [], laidByText := true, laidKinds := [.data], laidTests := true, laidLooks := .later }
def CommandAgainCardSaid : Prop := Claim7.holds Tryz.pinned (.plain (OpenSpec.ofChange commandAgainSpec)) commandAgainCard

/-- THE TIED CARD OF 'clearancelaw13.ScopeFinds'. -/
def scopeFindsCard : Claim7 := { stood := { row := scopeFindsRow, standIns := [], harness := (true, "7521cebef3a1c476b2d0e86e7d095977e28e868cc54cc7846965540af1afffae"), looks := false }, kinds := [], alts := [], laidByText := true, laidKinds := [.data], laidTests := true, laidLooks := .later }
def ScopeFindsCardSaid : Prop := Claim7.holds Tryz.pinned (.plain (OpenSpec.ofChange scopeFindsSpec)) scopeFindsCard

/-- THE TIED CARD OF 'clearancelaw13.ScopeFaults'. -/
def scopeFaultsCard : Claim7 := { stood := { row := scopeFaultsRow, standIns := [], harness := (true, "7521cebef3a1c476b2d0e86e7d095977e28e868cc54cc7846965540af1afffae"), looks := false }, kinds := [], alts := [], laidByText := true, laidKinds := [.data], laidTests := true, laidLooks := .later }
def ScopeFaultsCardSaid : Prop := Claim7.holds Tryz.pinned (.plain (OpenSpec.ofChange scopeFaultsSpec)) scopeFaultsCard

/-- THE TIED CARD OF 'clearancelaw13.ScopeAdds'. -/
def scopeAddsCard : Claim7 := { stood := { row := scopeAddsRow, standIns := [], harness := (true, "7521cebef3a1c476b2d0e86e7d095977e28e868cc54cc7846965540af1afffae"), looks := false }, kinds := [], alts := [], laidByText := true, laidKinds := [.data], laidTests := true, laidLooks := .later }
def ScopeAddsCardSaid : Prop := Claim7.holds Tryz.pinned (.plain (OpenSpec.ofChange scopeAddsSpec)) scopeAddsCard

/-- THE TIED CARD OF 'clearancelaw13.ScopeKeeps'. -/
def scopeKeepsCard : Claim7 := { stood := { row := scopeKeepsRow, standIns := [], harness := (true, "7521cebef3a1c476b2d0e86e7d095977e28e868cc54cc7846965540af1afffae"), looks := false }, kinds := [], alts := [], laidByText := true, laidKinds := [.data], laidTests := true, laidLooks := .later }
def ScopeKeepsCardSaid : Prop := Claim7.holds Tryz.pinned (.plain (OpenSpec.ofChange scopeKeepsSpec)) scopeKeepsCard

/-- THE TIED CARD OF 'clearancelaw13.ScopeLives'. -/
def scopeLivesCard : Claim7 := { stood := { row := scopeLivesRow, standIns := [], harness := (true, "7521cebef3a1c476b2d0e86e7d095977e28e868cc54cc7846965540af1afffae"), looks := false }, kinds := [], alts := [], laidByText := true, laidKinds := [.data], laidTests := true, laidLooks := .later }
def ScopeLivesCardSaid : Prop := Claim7.holds Tryz.pinned (.plain (OpenSpec.ofChange scopeLivesSpec)) scopeLivesCard

/-- THE SECOND FORM's CARD OF 'clearancelaw12.CommandTells'. -/
def commandTellsUptoCard : Claim7 := { stood := { row := commandTellsUptoRow, standIns := [], harness := (true, "7521cebef3a1c476b2d0e86e7d095977e28e868cc54cc7846965540af1afffae"), looks := false }, kinds := [], alts := [], laidByText := true, laidKinds := [.data], laidTests := true, laidLooks := .later }
def CommandTellsUptoCardSaid : Prop := Claim7.holds Tryz.pinned (.plain (OpenSpec.upto commandTellsSpec)) commandTellsUptoCard

/-- THE SECOND FORM's CARD OF 'clearancelaw12.CommandBack'. -/
def commandBackUptoCard : Claim7 := { stood := { row := commandBackUptoRow, standIns := [], harness := (true, "7521cebef3a1c476b2d0e86e7d095977e28e868cc54cc7846965540af1afffae"), looks := false }, kinds := [], alts := [], laidByText := true, laidKinds := [.data], laidTests := true, laidLooks := .later }
def CommandBackUptoCardSaid : Prop := Claim7.holds Tryz.pinned (.plain (OpenSpec.upto commandBackSpec)) commandBackUptoCard

/-- THE SECOND FORM's CARD OF 'clearancelaw12.CommandAgain'. -/
def commandAgainUptoCard : Claim7 := { stood := { row := commandAgainUptoRow, standIns := [], harness := (true, "7521cebef3a1c476b2d0e86e7d095977e28e868cc54cc7846965540af1afffae"), looks := false }, kinds := [], alts := [], laidByText := true, laidKinds := [.data], laidTests := true, laidLooks := .later }
def CommandAgainUptoCardSaid : Prop := Claim7.holds Tryz.pinned (.plain (OpenSpec.upto commandAgainSpec)) commandAgainUptoCard

/-- THE SECOND FORM's CARD OF 'clearancelaw13.ScopeFinds'. -/
def scopeFindsUptoCard : Claim7 := { stood := { row := scopeFindsUptoRow, standIns := [], harness := (true, "7521cebef3a1c476b2d0e86e7d095977e28e868cc54cc7846965540af1afffae"), looks := false }, kinds := [], alts := [], laidByText := true, laidKinds := [.data], laidTests := true, laidLooks := .later }
def ScopeFindsUptoCardSaid : Prop := Claim7.holds Tryz.pinned (.plain (OpenSpec.upto scopeFindsSpec)) scopeFindsUptoCard

/-- THE SECOND FORM's CARD OF 'clearancelaw13.ScopeFaults'. -/
def scopeFaultsUptoCard : Claim7 := { stood := { row := scopeFaultsUptoRow, standIns := [], harness := (true, "7521cebef3a1c476b2d0e86e7d095977e28e868cc54cc7846965540af1afffae"), looks := false }, kinds := [], alts := [], laidByText := true, laidKinds := [.data], laidTests := true, laidLooks := .later }
def ScopeFaultsUptoCardSaid : Prop := Claim7.holds Tryz.pinned (.plain (OpenSpec.upto scopeFaultsSpec)) scopeFaultsUptoCard

/-- THE SECOND FORM's CARD OF 'clearancelaw13.ScopeAdds'. -/
def scopeAddsUptoCard : Claim7 := { stood := { row := scopeAddsUptoRow, standIns := [], harness := (true, "7521cebef3a1c476b2d0e86e7d095977e28e868cc54cc7846965540af1afffae"), looks := false }, kinds := [], alts := [], laidByText := true, laidKinds := [.data], laidTests := true, laidLooks := .later }
def ScopeAddsUptoCardSaid : Prop := Claim7.holds Tryz.pinned (.plain (OpenSpec.upto scopeAddsSpec)) scopeAddsUptoCard

/-- THE SECOND FORM's CARD OF 'clearancelaw13.ScopeKeeps'. -/
def scopeKeepsUptoCard : Claim7 := { stood := { row := scopeKeepsUptoRow, standIns := [], harness := (true, "7521cebef3a1c476b2d0e86e7d095977e28e868cc54cc7846965540af1afffae"), looks := false }, kinds := [], alts := [], laidByText := true, laidKinds := [.data], laidTests := true, laidLooks := .later }
def ScopeKeepsUptoCardSaid : Prop := Claim7.holds Tryz.pinned (.plain (OpenSpec.upto scopeKeepsSpec)) scopeKeepsUptoCard

/-- THE SECOND FORM's CARD OF 'clearancelaw13.ScopeLives'. -/
def scopeLivesUptoCard : Claim7 := { stood := { row := scopeLivesUptoRow, standIns := [], harness := (true, "7521cebef3a1c476b2d0e86e7d095977e28e868cc54cc7846965540af1afffae"), looks := false }, kinds := [], alts := [], laidByText := true, laidKinds := [.data], laidTests := true, laidLooks := .later }
def ScopeLivesUptoCardSaid : Prop := Claim7.holds Tryz.pinned (.plain (OpenSpec.upto scopeLivesSpec)) scopeLivesUptoCard
end Rows
end Go.Proofs.YtcegiiaeeajfpaaGreatDoor
