/-
  DERIVED. GIVEN WITH THE SEED: THE CARDS: each row of YteachpfpcceamaaGreatDoorRows.lean that lists a variable, with what it lists TIED to the program's text (the seventh form; the later family's looks); each row that meets fmt, with fmt's text TOLD by the authors' own Lean function (tested against real Go, not proved from fmt's source: count such statements apart). THE CARD IS WHAT COUNTS. Prove the row's statement (the work); the ties are given (YteachpfpcceamaaGreatDoorTie.lean); close each card by the builder's one call (the guide's Derived/Test/ToyasCard.lean, 'card_holds'). Laid BY PROGRAM, IN A SANDBOX (cutbox-door.mjs). By AI agents, Wed Nov 11 2026. No macro, syntax, notation, axiom, sorry.
-/
import Derived.Test.YteachpfpcceamaaGreatDoorRows
import GoSem.ClaimSeven
namespace Go.Proofs.YteachpfpcceamaaGreatDoor
namespace Rows

/-- THE TIED CARD OF 'clearancelaw13.ScopeKeeps'. -/
def scopeKeepsCard : Claim7 := { stood := { row := scopeKeepsRow, standIns := [], harness := (true, "654744596b4d7d52693671ac01b359ba806f76ceb33b81ea7e36e8e22554843c"), looks := false }, kinds := [], alts := [], laidByText := true, laidKinds := [.data], laidTests := true, laidLooks := .later }
def ScopeKeepsCardSaid : Prop := Claim7.holds Tryz.pinned (.plain (OpenSpec.ofChange scopeKeepsSpec)) scopeKeepsCard

/-- THE TIED CARD OF 'clearancelaw13.ScopeLives'. -/
def scopeLivesCard : Claim7 := { stood := { row := scopeLivesRow, standIns := [], harness := (true, "654744596b4d7d52693671ac01b359ba806f76ceb33b81ea7e36e8e22554843c"), looks := false }, kinds := [], alts := [], laidByText := true, laidKinds := [.data], laidTests := true, laidLooks := .later }
def ScopeLivesCardSaid : Prop := Claim7.holds Tryz.pinned (.plain (OpenSpec.ofChange scopeLivesSpec)) scopeLivesCard

/-- THE TIED CARD OF 'clearancelaw14.CodeRuns'. -/
def codeRunsCard : Claim7 := { stood := { row := codeRunsRow, standIns := [], harness := (true, "654744596b4d7d52693671ac01b359ba806f76ceb33b81ea7e36e8e22554843c"), looks := false }, kinds := [], alts := [], laidByText := true, laidKinds := [.data], laidTests := true, laidLooks := .later }
def CodeRunsCardSaid : Prop := Claim7.holds Tryz.pinned (.plain (OpenSpec.ofChange codeRunsSpec)) codeRunsCard

/-- THE SECOND FORM's CARD OF 'clearancelaw13.ScopeKeeps'. -/
def scopeKeepsUptoCard : Claim7 := { stood := { row := scopeKeepsUptoRow, standIns := [], harness := (true, "654744596b4d7d52693671ac01b359ba806f76ceb33b81ea7e36e8e22554843c"), looks := false }, kinds := [], alts := [], laidByText := true, laidKinds := [.data], laidTests := true, laidLooks := .later }
def ScopeKeepsUptoCardSaid : Prop := Claim7.holds Tryz.pinned (.plain (OpenSpec.upto scopeKeepsSpec)) scopeKeepsUptoCard

/-- THE SECOND FORM's CARD OF 'clearancelaw13.ScopeLives'. -/
def scopeLivesUptoCard : Claim7 := { stood := { row := scopeLivesUptoRow, standIns := [], harness := (true, "654744596b4d7d52693671ac01b359ba806f76ceb33b81ea7e36e8e22554843c"), looks := false }, kinds := [], alts := [], laidByText := true, laidKinds := [.data], laidTests := true, laidLooks := .later }
def ScopeLivesUptoCardSaid : Prop := Claim7.holds Tryz.pinned (.plain (OpenSpec.upto scopeLivesSpec)) scopeLivesUptoCard

/-- THE SECOND FORM's CARD OF 'clearancelaw14.CodeRuns'. -/
def codeRunsUptoCard : Claim7 := { stood := { row := codeRunsUptoRow, standIns := [], harness := (true, "654744596b4d7d52693671ac01b359ba806f76ceb33b81ea7e36e8e22554843c"), looks := false }, kinds := [], alts := [], laidByText := true, laidKinds := [.data], laidTests := true, laidLooks := .later }
def CodeRunsUptoCardSaid : Prop := Claim7.holds Tryz.pinned (.plain (OpenSpec.upto codeRunsSpec)) codeRunsUptoCard
end Rows
end Go.Proofs.YteachpfpcceamaaGreatDoor
