/-
  DERIVED. GIVEN WITH THE SEED: THE CARDS: each row of YtebnfmfpejnkcaaGreatDoorRows.lean that lists a variable, with what it lists TIED to the program's text (the seventh form; the later family's looks); each row that meets fmt, with fmt's text TOLD by the authors' own Lean function (tested against real Go, not proved from fmt's source: count such statements apart). THE CARD IS WHAT COUNTS. Prove the row's statement (the work); the ties are given (YtebnfmfpejnkcaaGreatDoorTie.lean); close each card by the builder's one call (the guide's Derived/Test/ToyasCard.lean, 'card_holds'). Laid BY PROGRAM, IN A SANDBOX (cutbox-door.mjs). By AI agents, Wed Nov 11 2026. No macro, syntax, notation, axiom, sorry.
-/
import Derived.Test.YtebnfmfpejnkcaaGreatDoorRows
import GoSem.ClaimSeven
namespace Go.Proofs.YtebnfmfpejnkcaaGreatDoor
namespace Rows

/-- THE TIED CARD OF 'clearancelaw13.ScopeFaults'. -/
def scopeFaultsCard : Claim7 := { stood := { row := scopeFaultsRow, standIns := [], harness := (true, "1fe90345a3eba40923a8834b4fefd156c74aa5f6ccfeff2b8c0a9c928d738996"), looks := false }, kinds := [], alts := [], laidByText := true, laidKinds := [.data], laidTests := true, laidLooks := .later }
def ScopeFaultsCardSaid : Prop := Claim7.holds Tryz.pinned (.plain (OpenSpec.ofChange scopeFaultsSpec)) scopeFaultsCard

/-- THE TIED CARD OF 'clearancelaw13.ScopeAdds'. -/
def scopeAddsCard : Claim7 := { stood := { row := scopeAddsRow, standIns := [], harness := (true, "1fe90345a3eba40923a8834b4fefd156c74aa5f6ccfeff2b8c0a9c928d738996"), looks := false }, kinds := [], alts := [], laidByText := true, laidKinds := [.data], laidTests := true, laidLooks := .later }
def ScopeAddsCardSaid : Prop := Claim7.holds Tryz.pinned (.plain (OpenSpec.ofChange scopeAddsSpec)) scopeAddsCard

/-- THE TIED CARD OF 'clearancelaw13.ScopeKeeps'. -/
def scopeKeepsCard : Claim7 := { stood := { row := scopeKeepsRow, standIns := [], harness := (true, "1fe90345a3eba40923a8834b4fefd156c74aa5f6ccfeff2b8c0a9c928d738996"), looks := false }, kinds := [], alts := [], laidByText := true, laidKinds := [.data], laidTests := true, laidLooks := .later }
def ScopeKeepsCardSaid : Prop := Claim7.holds Tryz.pinned (.plain (OpenSpec.ofChange scopeKeepsSpec)) scopeKeepsCard

/-- THE TIED CARD OF 'clearancelaw13.ScopeLives'. -/
def scopeLivesCard : Claim7 := { stood := { row := scopeLivesRow, standIns := [], harness := (true, "1fe90345a3eba40923a8834b4fefd156c74aa5f6ccfeff2b8c0a9c928d738996"), looks := false }, kinds := [], alts := [], laidByText := true, laidKinds := [.data], laidTests := true, laidLooks := .later }
def ScopeLivesCardSaid : Prop := Claim7.holds Tryz.pinned (.plain (OpenSpec.ofChange scopeLivesSpec)) scopeLivesCard

/-- THE TIED CARD OF 'clearancelaw14.CodeCompiles'. -/
def codeCompilesCard : Claim7 := { stood := { row := codeCompilesRow, standIns := [], harness := (true, "1fe90345a3eba40923a8834b4fefd156c74aa5f6ccfeff2b8c0a9c928d738996"), looks := false }, kinds := [], alts := [], laidByText := true, laidKinds := [.data], laidTests := true, laidLooks := .later }
def CodeCompilesCardSaid : Prop := Claim7.holds Tryz.pinned (.plain (OpenSpec.ofChange codeCompilesSpec)) codeCompilesCard

/-- THE TIED CARD OF 'clearancelaw14.CodeRuns'. -/
def codeRunsCard : Claim7 := { stood := { row := codeRunsRow, standIns := [], harness := (true, "1fe90345a3eba40923a8834b4fefd156c74aa5f6ccfeff2b8c0a9c928d738996"), looks := false }, kinds := [], alts := [], laidByText := true, laidKinds := [.data], laidTests := true, laidLooks := .later }
def CodeRunsCardSaid : Prop := Claim7.holds Tryz.pinned (.plain (OpenSpec.ofChange codeRunsSpec)) codeRunsCard

/-- THE TIED CARD OF 'clearancelaw14.CodeMeans'. -/
def codeMeansCard : Claim7 := { stood := { row := codeMeansRow, standIns := [], harness := (true, "1fe90345a3eba40923a8834b4fefd156c74aa5f6ccfeff2b8c0a9c928d738996"), looks := false }, kinds := [], alts := [], laidByText := true, laidKinds := [.data], laidTests := true, laidLooks := .later }
def CodeMeansCardSaid : Prop := Claim7.holds Tryz.pinned (.plain (OpenSpec.ofChange codeMeansSpec)) codeMeansCard

/-- THE TIED CARD OF 'clearancelaw14.CodeRises'. -/
def codeRisesCard : Claim7 := { stood := { row := codeRisesRow, standIns := [], harness := (true, "1fe90345a3eba40923a8834b4fefd156c74aa5f6ccfeff2b8c0a9c928d738996"), looks := false }, kinds := [], alts := [], laidByText := true, laidKinds := [.data], laidTests := true, laidLooks := .later }
def CodeRisesCardSaid : Prop := Claim7.holds Tryz.pinned (.plain (OpenSpec.ofChange codeRisesSpec)) codeRisesCard

/-- THE SECOND FORM's CARD OF 'clearancelaw13.ScopeFaults'. -/
def scopeFaultsUptoCard : Claim7 := { stood := { row := scopeFaultsUptoRow, standIns := [], harness := (true, "1fe90345a3eba40923a8834b4fefd156c74aa5f6ccfeff2b8c0a9c928d738996"), looks := false }, kinds := [], alts := [], laidByText := true, laidKinds := [.data], laidTests := true, laidLooks := .later }
def ScopeFaultsUptoCardSaid : Prop := Claim7.holds Tryz.pinned (.plain (OpenSpec.upto scopeFaultsSpec)) scopeFaultsUptoCard

/-- THE SECOND FORM's CARD OF 'clearancelaw13.ScopeAdds'. -/
def scopeAddsUptoCard : Claim7 := { stood := { row := scopeAddsUptoRow, standIns := [], harness := (true, "1fe90345a3eba40923a8834b4fefd156c74aa5f6ccfeff2b8c0a9c928d738996"), looks := false }, kinds := [], alts := [], laidByText := true, laidKinds := [.data], laidTests := true, laidLooks := .later }
def ScopeAddsUptoCardSaid : Prop := Claim7.holds Tryz.pinned (.plain (OpenSpec.upto scopeAddsSpec)) scopeAddsUptoCard

/-- THE SECOND FORM's CARD OF 'clearancelaw13.ScopeKeeps'. -/
def scopeKeepsUptoCard : Claim7 := { stood := { row := scopeKeepsUptoRow, standIns := [], harness := (true, "1fe90345a3eba40923a8834b4fefd156c74aa5f6ccfeff2b8c0a9c928d738996"), looks := false }, kinds := [], alts := [], laidByText := true, laidKinds := [.data], laidTests := true, laidLooks := .later }
def ScopeKeepsUptoCardSaid : Prop := Claim7.holds Tryz.pinned (.plain (OpenSpec.upto scopeKeepsSpec)) scopeKeepsUptoCard

/-- THE SECOND FORM's CARD OF 'clearancelaw13.ScopeLives'. -/
def scopeLivesUptoCard : Claim7 := { stood := { row := scopeLivesUptoRow, standIns := [], harness := (true, "1fe90345a3eba40923a8834b4fefd156c74aa5f6ccfeff2b8c0a9c928d738996"), looks := false }, kinds := [], alts := [], laidByText := true, laidKinds := [.data], laidTests := true, laidLooks := .later }
def ScopeLivesUptoCardSaid : Prop := Claim7.holds Tryz.pinned (.plain (OpenSpec.upto scopeLivesSpec)) scopeLivesUptoCard

/-- THE SECOND FORM's CARD OF 'clearancelaw14.CodeCompiles'. -/
def codeCompilesUptoCard : Claim7 := { stood := { row := codeCompilesUptoRow, standIns := [], harness := (true, "1fe90345a3eba40923a8834b4fefd156c74aa5f6ccfeff2b8c0a9c928d738996"), looks := false }, kinds := [], alts := [], laidByText := true, laidKinds := [.data], laidTests := true, laidLooks := .later }
def CodeCompilesUptoCardSaid : Prop := Claim7.holds Tryz.pinned (.plain (OpenSpec.upto codeCompilesSpec)) codeCompilesUptoCard

/-- THE SECOND FORM's CARD OF 'clearancelaw14.CodeRuns'. -/
def codeRunsUptoCard : Claim7 := { stood := { row := codeRunsUptoRow, standIns := [], harness := (true, "1fe90345a3eba40923a8834b4fefd156c74aa5f6ccfeff2b8c0a9c928d738996"), looks := false }, kinds := [], alts := [], laidByText := true, laidKinds := [.data], laidTests := true, laidLooks := .later }
def CodeRunsUptoCardSaid : Prop := Claim7.holds Tryz.pinned (.plain (OpenSpec.upto codeRunsSpec)) codeRunsUptoCard

/-- THE SECOND FORM's CARD OF 'clearancelaw14.CodeMeans'. -/
def codeMeansUptoCard : Claim7 := { stood := { row := codeMeansUptoRow, standIns := [], harness := (true, "1fe90345a3eba40923a8834b4fefd156c74aa5f6ccfeff2b8c0a9c928d738996"), looks := false }, kinds := [], alts := [], laidByText := true, laidKinds := [.data], laidTests := true, laidLooks := .later }
def CodeMeansUptoCardSaid : Prop := Claim7.holds Tryz.pinned (.plain (OpenSpec.upto codeMeansSpec)) codeMeansUptoCard

/-- THE SECOND FORM's CARD OF 'clearancelaw14.CodeRises'. -/
def codeRisesUptoCard : Claim7 := { stood := { row := codeRisesUptoRow, standIns := [], harness := (true, "1fe90345a3eba40923a8834b4fefd156c74aa5f6ccfeff2b8c0a9c928d738996"), looks := false }, kinds := [], alts := [], laidByText := true, laidKinds := [.data], laidTests := true, laidLooks := .later }
def CodeRisesUptoCardSaid : Prop := Claim7.holds Tryz.pinned (.plain (OpenSpec.upto codeRisesSpec)) codeRisesUptoCard
end Rows
end Go.Proofs.YtebnfmfpejnkcaaGreatDoor
