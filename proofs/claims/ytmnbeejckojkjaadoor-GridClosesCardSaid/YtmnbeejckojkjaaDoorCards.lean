/-
  DERIVED. GIVEN WITH THE SEED: THE CARDS: each row of YtmnbeejckojkjaaDoorRows.lean that lists a variable, with what it lists TIED to the program's text (the seventh form; the later family's looks); each row that meets fmt, with fmt's text TOLD by the authors' own Lean function (tested against real Go, not proved from fmt's source: count such statements apart). THE CARD IS WHAT COUNTS. Prove the row's statement (the work); the ties are given (YtmnbeejckojkjaaDoorTie.lean); close each card by the builder's one call (the guide's Derived/Test/ToyasCard.lean, 'card_holds'). Laid BY PROGRAM, IN A SANDBOX (cutbox-door.mjs). By AI agents, Wed Nov 11 2026. No macro, syntax, notation, axiom, sorry.
-/
import Derived.Test.YtmnbeejckojkjaaDoorRows
import GoSem.ClaimSeven
namespace Go.Proofs.YtmnbeejckojkjaaDoor
namespace Rows

/-- THE TIED CARD OF 'clearancelaw05.GridCloses'. -/
def gridClosesCard : Claim7 := { stood := { row := gridClosesRow, standIns := [], harness := (true, "d4e4a9233feedecc03a8a37bafdeed209c4c3cbe58bd21526428f67291bbe1c5"), looks := false }, kinds := [], alts := [], laidByText := true, laidKinds := [.data], laidTests := true, laidLooks := .later }
def GridClosesCardSaid : Prop := Claim7.holds Tryd.pinned (.plain (OpenSpec.ofChange gridClosesSpec)) gridClosesCard

/-- THE TIED CARD OF 'clearancelaw05.GridRules'. -/
def gridRulesCard : Claim7 := { stood := { row := gridRulesRow, standIns := [], harness := (true, "d4e4a9233feedecc03a8a37bafdeed209c4c3cbe58bd21526428f67291bbe1c5"), looks := false }, kinds := [], alts := [], laidByText := true, laidKinds := [.data], laidTests := true, laidLooks := .later }
def GridRulesCardSaid : Prop := Claim7.holds Tryd.pinned (.plain (OpenSpec.ofChange gridRulesSpec)) gridRulesCard

/-- THE TIED CARD OF 'clearancelaw05.GridLeast'. -/
def gridLeastCard : Claim7 := { stood := { row := gridLeastRow, standIns := [], harness := (true, "d4e4a9233feedecc03a8a37bafdeed209c4c3cbe58bd21526428f67291bbe1c5"), looks := false }, kinds := [], alts := [], laidByText := true, laidKinds := [.data], laidTests := true, laidLooks := .later }
def GridLeastCardSaid : Prop := Claim7.holds Tryd.pinned (.plain (OpenSpec.ofChange gridLeastSpec)) gridLeastCard

/-- THE TIED CARD OF 'clearancelaw05.GridBack'. -/
def gridBackCard : Claim7 := { stood := { row := gridBackRow, standIns := [], harness := (true, "d4e4a9233feedecc03a8a37bafdeed209c4c3cbe58bd21526428f67291bbe1c5"), looks := false }, kinds := [], alts := [], laidByText := true, laidKinds := [.data], laidTests := true, laidLooks := .later }
def GridBackCardSaid : Prop := Claim7.holds Tryd.pinned (.plain (OpenSpec.ofChange gridBackSpec)) gridBackCard

/-- THE TIED CARD OF 'clearancelaw05.GridHeight'. -/
def gridHeightCard : Claim7 := { stood := { row := gridHeightRow, standIns := [], harness := (true, "d4e4a9233feedecc03a8a37bafdeed209c4c3cbe58bd21526428f67291bbe1c5"), looks := false }, kinds := [], alts := [], laidByText := true, laidKinds := [.data], laidTests := true, laidLooks := .later }
def GridHeightCardSaid : Prop := Claim7.holds Tryd.pinned (.plain (OpenSpec.ofChange gridHeightSpec)) gridHeightCard

/-- THE SECOND FORM's CARD OF 'clearancelaw05.GridCloses'. -/
def gridClosesUptoCard : Claim7 := { stood := { row := gridClosesUptoRow, standIns := [], harness := (true, "d4e4a9233feedecc03a8a37bafdeed209c4c3cbe58bd21526428f67291bbe1c5"), looks := false }, kinds := [], alts := [], laidByText := true, laidKinds := [.data], laidTests := true, laidLooks := .later }
def GridClosesUptoCardSaid : Prop := Claim7.holds Tryd.pinned (.plain (OpenSpec.upto gridClosesSpec)) gridClosesUptoCard

/-- THE SECOND FORM's CARD OF 'clearancelaw05.GridRules'. -/
def gridRulesUptoCard : Claim7 := { stood := { row := gridRulesUptoRow, standIns := [], harness := (true, "d4e4a9233feedecc03a8a37bafdeed209c4c3cbe58bd21526428f67291bbe1c5"), looks := false }, kinds := [], alts := [], laidByText := true, laidKinds := [.data], laidTests := true, laidLooks := .later }
def GridRulesUptoCardSaid : Prop := Claim7.holds Tryd.pinned (.plain (OpenSpec.upto gridRulesSpec)) gridRulesUptoCard

/-- THE SECOND FORM's CARD OF 'clearancelaw05.GridLeast'. -/
def gridLeastUptoCard : Claim7 := { stood := { row := gridLeastUptoRow, standIns := [], harness := (true, "d4e4a9233feedecc03a8a37bafdeed209c4c3cbe58bd21526428f67291bbe1c5"), looks := false }, kinds := [], alts := [], laidByText := true, laidKinds := [.data], laidTests := true, laidLooks := .later }
def GridLeastUptoCardSaid : Prop := Claim7.holds Tryd.pinned (.plain (OpenSpec.upto gridLeastSpec)) gridLeastUptoCard

/-- THE SECOND FORM's CARD OF 'clearancelaw05.GridBack'. -/
def gridBackUptoCard : Claim7 := { stood := { row := gridBackUptoRow, standIns := [], harness := (true, "d4e4a9233feedecc03a8a37bafdeed209c4c3cbe58bd21526428f67291bbe1c5"), looks := false }, kinds := [], alts := [], laidByText := true, laidKinds := [.data], laidTests := true, laidLooks := .later }
def GridBackUptoCardSaid : Prop := Claim7.holds Tryd.pinned (.plain (OpenSpec.upto gridBackSpec)) gridBackUptoCard

/-- THE SECOND FORM's CARD OF 'clearancelaw05.GridHeight'. -/
def gridHeightUptoCard : Claim7 := { stood := { row := gridHeightUptoRow, standIns := [], harness := (true, "d4e4a9233feedecc03a8a37bafdeed209c4c3cbe58bd21526428f67291bbe1c5"), looks := false }, kinds := [], alts := [], laidByText := true, laidKinds := [.data], laidTests := true, laidLooks := .later }
def GridHeightUptoCardSaid : Prop := Claim7.holds Tryd.pinned (.plain (OpenSpec.upto gridHeightSpec)) gridHeightUptoCard
end Rows
end Go.Proofs.YtmnbeejckojkjaaDoor
