/-
  DERIVED. GIVEN WITH THE SEED: THE CARDS: each row of YtojbmahapomoeaaDoorRows.lean that lists a variable, with what it lists TIED to the program's text (the seventh form; the later family's looks); each row that meets fmt, with fmt's text TOLD by the authors' own Lean function (tested against real Go, not proved from fmt's source: count such statements apart). THE CARD IS WHAT COUNTS. Prove the row's statement (the work); the ties are given (YtojbmahapomoeaaDoorTie.lean); close each card by the builder's one call (the guide's Derived/Test/ToyasCard.lean, 'card_holds'). Laid BY PROGRAM, IN A SANDBOX (cutbox-door.mjs). By AI agents, Wed Nov 11 2026. No macro, syntax, notation, axiom, sorry.
-/
import Derived.Test.YtojbmahapomoeaaDoorRows
import GoSem.ClaimSeven
namespace Go.Proofs.YtojbmahapomoeaaDoor
namespace Rows

/-- THE TIED CARD OF 'clearancelaw03.RelateCovers'. -/
def relateCoversCard : Claim7 := { stood := { row := relateCoversRow, standIns := [], harness := (true, "b0e93d865c7003bd0f6a8e6ed4f7cef8f3f9ca8feb387842ffbe2deaf45efaac"), looks := false }, kinds := [], alts := [], laidByText := true, laidKinds := [.data], laidTests := true, laidLooks := .later }
def RelateCoversCardSaid : Prop := Claim7.holds Tryd.pinned (.plain (OpenSpec.ofChange relateCoversSpec)) relateCoversCard

/-- THE SECOND FORM's CARD OF 'clearancelaw03.RelateCovers'. -/
def relateCoversUptoCard : Claim7 := { stood := { row := relateCoversUptoRow, standIns := [], harness := (true, "b0e93d865c7003bd0f6a8e6ed4f7cef8f3f9ca8feb387842ffbe2deaf45efaac"), looks := false }, kinds := [], alts := [], laidByText := true, laidKinds := [.data], laidTests := true, laidLooks := .later }
def RelateCoversUptoCardSaid : Prop := Claim7.holds Tryd.pinned (.plain (OpenSpec.upto relateCoversSpec)) relateCoversUptoCard
end Rows
end Go.Proofs.YtojbmahapomoeaaDoor
