/-
  DERIVED. GIVEN WITH THE SEED: THE CARDS: each row of YtnfndapgcpdcpaaGreatDoorRows.lean that lists a variable, with what it lists TIED to the program's text (the seventh form; the later family's looks); each row that meets fmt, with fmt's text TOLD by the authors' own Lean function (tested against real Go, not proved from fmt's source: count such statements apart). THE CARD IS WHAT COUNTS. Prove the row's statement (the work); the ties are given (YtnfndapgcpdcpaaGreatDoorTie.lean); close each card by the builder's one call (the guide's Derived/Test/ToyasCard.lean, 'card_holds'). Laid BY PROGRAM, IN A SANDBOX (cutbox-door.mjs). By AI agents, Wed Nov 11 2026. No macro, syntax, notation, axiom, sorry.
-/
import Derived.Test.YtnfndapgcpdcpaaGreatDoorRows
import GoSem.ClaimSeven
namespace Go.Proofs.YtnfndapgcpdcpaaGreatDoor
namespace Rows

/-- THE TIED CARD OF 'clearancelaw18.AssignTells'. -/
def assignTellsCard : Claim7 := { stood := { row := assignTellsRow, standIns := [], harness := (true, "cdf142aa941d3659aa740c5a1154d9b30f6819a57ef0c099ba3532764abf131e"), looks := false }, kinds := [], alts := [], laidByText := true, laidKinds := [.data], laidTests := true, laidLooks := .later }
def AssignTellsCardSaid : Prop := Claim7.holds Tryz.pinned (.plain (OpenSpec.ofChange assignTellsSpec)) assignTellsCard

/-- THE TIED CARD OF 'clearancelaw18.AssignOrder'. -/
def assignOrderCard : Claim7 := { stood := { row := assignOrderRow, standIns := [], harness := (true, "cdf142aa941d3659aa740c5a1154d9b30f6819a57ef0c099ba3532764abf131e"), looks := false }, kinds := [], alts := [], laidByText := true, laidKinds := [.data], laidTests := true, laidLooks := .later }
def AssignOrderCardSaid : Prop := Claim7.holds Tryz.pinned (.plain (OpenSpec.ofChange assignOrderSpec)) assignOrderCard

/-- THE TIED CARD OF 'clearancelaw18.AssignFields'. -/
def assignFieldsCard : Claim7 := { stood := { row := assignFieldsRow, standIns := [], harness := (true, "cdf142aa941d3659aa740c5a1154d9b30f6819a57ef0c099ba3532764abf131e"), looks := false }, kinds := [], alts := [], laidByText := true, laidKinds := [.data], laidTests := true, laidLooks := .later }
def AssignFieldsCardSaid : Prop := Claim7.holds Tryz.pinned (.plain (OpenSpec.ofChange assignFieldsSpec)) assignFieldsCard

/-- THE TIED CARD OF 'clearancelaw18.AssignLattice'. -/
def assignLatticeCard : Claim7 := { stood := { row := assignLatticeRow, standIns := [], harness := (true, "cdf142aa941d3659aa740c5a1154d9b30f6819a57ef0c099ba3532764abf131e"), looks := false }, kinds := [], alts := [], laidByText := true, laidKinds := [.data], laidTests := true, laidLooks := .later }
def AssignLatticeCardSaid : Prop := Claim7.holds Tryz.pinned (.plain (OpenSpec.ofChange assignLatticeSpec)) assignLatticeCard

/-- THE SECOND FORM's CARD OF 'clearancelaw18.AssignTells'. -/
def assignTellsUptoCard : Claim7 := { stood := { row := assignTellsUptoRow, standIns := [], harness := (true, "cdf142aa941d3659aa740c5a1154d9b30f6819a57ef0c099ba3532764abf131e"), looks := false }, kinds := [], alts := [], laidByText := true, laidKinds := [.data], laidTests := true, laidLooks := .later }
def AssignTellsUptoCardSaid : Prop := Claim7.holds Tryz.pinned (.plain (OpenSpec.upto assignTellsSpec)) assignTellsUptoCard

/-- THE SECOND FORM's CARD OF 'clearancelaw18.AssignOrder'. -/
def assignOrderUptoCard : Claim7 := { stood := { row := assignOrderUptoRow, standIns := [], harness := (true, "cdf142aa941d3659aa740c5a1154d9b30f6819a57ef0c099ba3532764abf131e"), looks := false }, kinds := [], alts := [], laidByText := true, laidKinds := [.data], laidTests := true, laidLooks := .later }
def AssignOrderUptoCardSaid : Prop := Claim7.holds Tryz.pinned (.plain (OpenSpec.upto assignOrderSpec)) assignOrderUptoCard

/-- THE SECOND FORM's CARD OF 'clearancelaw18.AssignFields'. -/
def assignFieldsUptoCard : Claim7 := { stood := { row := assignFieldsUptoRow, standIns := [], harness := (true, "cdf142aa941d3659aa740c5a1154d9b30f6819a57ef0c099ba3532764abf131e"), looks := false }, kinds := [], alts := [], laidByText := true, laidKinds := [.data], laidTests := true, laidLooks := .later }
def AssignFieldsUptoCardSaid : Prop := Claim7.holds Tryz.pinned (.plain (OpenSpec.upto assignFieldsSpec)) assignFieldsUptoCard

/-- THE SECOND FORM's CARD OF 'clearancelaw18.AssignLattice'. -/
def assignLatticeUptoCard : Claim7 := { stood := { row := assignLatticeUptoRow, standIns := [], harness := (true, "cdf142aa941d3659aa740c5a1154d9b30f6819a57ef0c099ba3532764abf131e"), looks := false }, kinds := [], alts := [], laidByText := true, laidKinds := [.data], laidTests := true, laidLooks := .later }
def AssignLatticeUptoCardSaid : Prop := Claim7.holds Tryz.pinned (.plain (OpenSpec.upto assignLatticeSpec)) assignLatticeUptoCard
end Rows
end Go.Proofs.YtnfndapgcpdcpaaGreatDoor
