/-
  DERIVED. GIVEN WITH THE SEED: THE CARDS: each row of YtepmcdneafpmeaaDoorRows.lean that lists a variable, with what it lists TIED to the program's text (the seventh form; the later family's looks); each row that meets fmt, with fmt's text TOLD by the authors' own Lean function (tested against real Go, not proved from fmt's source: count such statements apart). THE CARD IS WHAT COUNTS. Prove the row's statement (the work); the ties are given (YtepmcdneafpmeaaDoorTie.lean); close each card by the builder's one call (the guide's Derived/Test/ToyasCard.lean, 'card_holds'). Laid BY PROGRAM, IN A SANDBOX (cutbox-door.mjs). By AI agents, Wed Nov 11 2026. No macro, syntax, notation, axiom, sorry.
-/
import Derived.Test.YtepmcdneafpmeaaDoorRows
import GoSem.ClaimSeven
namespace Go.Proofs.YtepmcdneafpmeaaDoor
namespace Rows

/-- THE TIED CARD OF 'clearancelaw03.RelateOf'. -/
def relateOfCard : Claim7 := { stood := { row := relateOfRow, standIns := [], harness := (true, "7894f0ecd3eb240141904dbafedb43a53d460fc8e3aee7eaad9bbd8d07914ae7"), looks := false }, kinds := [], alts := [], laidByText := true, laidKinds := [.data], laidTests := true, laidLooks := .later }
def RelateOfCardSaid : Prop := Claim7.holds Tryd.pinned (.plain (OpenSpec.ofChange relateOfSpec)) relateOfCard

/-- THE TIED CARD OF 'clearancelaw03.RelateTells'. -/
def relateTellsCard : Claim7 := { stood := { row := relateTellsRow, standIns := [], harness := (true, "7894f0ecd3eb240141904dbafedb43a53d460fc8e3aee7eaad9bbd8d07914ae7"), looks := false }, kinds := [], alts := [], laidByText := true, laidKinds := [.data], laidTests := true, laidLooks := .later }
def RelateTellsCardSaid : Prop := Claim7.holds Tryd.pinned (.plain (OpenSpec.ofChange relateTellsSpec)) relateTellsCard

/-- THE TIED CARD OF 'clearancelaw03.RelateReaches'. -/
def relateReachesCard : Claim7 := { stood := { row := relateReachesRow, standIns := [], harness := (true, "7894f0ecd3eb240141904dbafedb43a53d460fc8e3aee7eaad9bbd8d07914ae7"), looks := false }, kinds := [], alts := [], laidByText := true, laidKinds := [.data], laidTests := true, laidLooks := .later }
def RelateReachesCardSaid : Prop := Claim7.holds Tryd.pinned (.plain (OpenSpec.ofChange relateReachesSpec)) relateReachesCard

/-- THE TIED CARD OF 'clearancelaw03.RelateLeast'. -/
def relateLeastCard : Claim7 := { stood := { row := relateLeastRow, standIns := [], harness := (true, "7894f0ecd3eb240141904dbafedb43a53d460fc8e3aee7eaad9bbd8d07914ae7"), looks := false }, kinds := [], alts := [], laidByText := true, laidKinds := [.data], laidTests := true, laidLooks := .later }
def RelateLeastCardSaid : Prop := Claim7.holds Tryd.pinned (.plain (OpenSpec.ofChange relateLeastSpec)) relateLeastCard

/-- THE TIED CARD OF 'clearancelaw03.RelateImages'. -/
def relateImagesCard : Claim7 := { stood := { row := relateImagesRow, standIns := [], harness := (true, "7894f0ecd3eb240141904dbafedb43a53d460fc8e3aee7eaad9bbd8d07914ae7"), looks := false }, kinds := [], alts := [], laidByText := true, laidKinds := [.data], laidTests := true, laidLooks := .later }
def RelateImagesCardSaid : Prop := Claim7.holds Tryd.pinned (.plain (OpenSpec.ofChange relateImagesSpec)) relateImagesCard

/-- THE TIED CARD OF 'clearancelaw03.RelateCovers'. -/
def relateCoversCard : Claim7 := { stood := { row := relateCoversRow, standIns := [], harness := (true, "7894f0ecd3eb240141904dbafedb43a53d460fc8e3aee7eaad9bbd8d07914ae7"), looks := false }, kinds := [], alts := [], laidByText := true, laidKinds := [.data], laidTests := true, laidLooks := .later }
def RelateCoversCardSaid : Prop := Claim7.holds Tryd.pinned (.plain (OpenSpec.ofChange relateCoversSpec)) relateCoversCard

/-- THE SECOND FORM's CARD OF 'clearancelaw03.RelateOf'. -/
def relateOfUptoCard : Claim7 := { stood := { row := relateOfUptoRow, standIns := [], harness := (true, "7894f0ecd3eb240141904dbafedb43a53d460fc8e3aee7eaad9bbd8d07914ae7"), looks := false }, kinds := [], alts := [], laidByText := true, laidKinds := [.data], laidTests := true, laidLooks := .later }
def RelateOfUptoCardSaid : Prop := Claim7.holds Tryd.pinned (.plain (OpenSpec.upto relateOfSpec)) relateOfUptoCard

/-- THE SECOND FORM's CARD OF 'clearancelaw03.RelateTells'. -/
def relateTellsUptoCard : Claim7 := { stood := { row := relateTellsUptoRow, standIns := [], harness := (true, "7894f0ecd3eb240141904dbafedb43a53d460fc8e3aee7eaad9bbd8d07914ae7"), looks := false }, kinds := [], alts := [], laidByText := true, laidKinds := [.data], laidTests := true, laidLooks := .later }
def RelateTellsUptoCardSaid : Prop := Claim7.holds Tryd.pinned (.plain (OpenSpec.upto relateTellsSpec)) relateTellsUptoCard

/-- THE SECOND FORM's CARD OF 'clearancelaw03.RelateReaches'. -/
def relateReachesUptoCard : Claim7 := { stood := { row := relateReachesUptoRow, standIns := [], harness := (true, "7894f0ecd3eb240141904dbafedb43a53d460fc8e3aee7eaad9bbd8d07914ae7"), looks := false }, kinds := [], alts := [], laidByText := true, laidKinds := [.data], laidTests := true, laidLooks := .later }
def RelateReachesUptoCardSaid : Prop := Claim7.holds Tryd.pinned (.plain (OpenSpec.upto relateReachesSpec)) relateReachesUptoCard

/-- THE SECOND FORM's CARD OF 'clearancelaw03.RelateLeast'. -/
def relateLeastUptoCard : Claim7 := { stood := { row := relateLeastUptoRow, standIns := [], harness := (true, "7894f0ecd3eb240141904dbafedb43a53d460fc8e3aee7eaad9bbd8d07914ae7"), looks := false }, kinds := [], alts := [], laidByText := true, laidKinds := [.data], laidTests := true, laidLooks := .later }
def RelateLeastUptoCardSaid : Prop := Claim7.holds Tryd.pinned (.plain (OpenSpec.upto relateLeastSpec)) relateLeastUptoCard

/-- THE SECOND FORM's CARD OF 'clearancelaw03.RelateImages'. -/
def relateImagesUptoCard : Claim7 := { stood := { row := relateImagesUptoRow, standIns := [], harness := (true, "7894f0ecd3eb240141904dbafedb43a53d460fc8e3aee7eaad9bbd8d07914ae7"), looks := false }, kinds := [], alts := [], laidByText := true, laidKinds := [.data], laidTests := true, laidLooks := .later }
def RelateImagesUptoCardSaid : Prop := Claim7.holds Tryd.pinned (.plain (OpenSpec.upto relateImagesSpec)) relateImagesUptoCard

/-- THE SECOND FORM's CARD OF 'clearancelaw03.RelateCovers'. -/
def relateCoversUptoCard : Claim7 := { stood := { row := relateCoversUptoRow, standIns := [], harness := (true, "7894f0ecd3eb240141904dbafedb43a53d460fc8e3aee7eaad9bbd8d07914ae7"), looks := false }, kinds := [], alts := [], laidByText := true, laidKinds := [.data], laidTests := true, laidLooks := .later }
def RelateCoversUptoCardSaid : Prop := Claim7.holds Tryd.pinned (.plain (OpenSpec.upto relateCoversSpec)) relateCoversUptoCard
end Rows
end Go.Proofs.YtepmcdneafpmeaaDoor
