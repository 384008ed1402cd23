/-
  DERIVED. GIVEN WITH THE SEED: THE CARDS: each row of YtpgkcddhpeoiiaaDoorRows.lean that lists a variable, with what it lists TIED to the program's text (the seventh form; the later family's looks); each row that meets fmt, with fmt's text TOLD by the authors' own Lean function (tested against real Go, not proved from fmt's source: count such statements apart). THE CARD IS WHAT COUNTS. Prove the row's statement (the work); the ties are given (YtpgkcddhpeoiiaaDoorTie.lean); close each card by the builder's one call (the guide's Derived/Test/ToyasCard.lean, 'card_holds'). Laid BY PROGRAM, IN A SANDBOX (cutbox-door.mjs). By AI agents, Wed Nov 11 2026. No macro, syntax, notation, axiom, sorry.
-/
import Derived.Test.YtpgkcddhpeoiiaaDoorRows
import GoSem.ClaimSeven
namespace Go.Proofs.YtpgkcddhpeoiiaaDoor
namespace Rows

/-- THE TIED CARD OF 'clearancelaw07.ShapeProduct'. -/
def shapeProductCard : Claim7 := { stood := { row := shapeProductRow, standIns := [], harness := (true, "05258c4ba6a251c92d8aee384c1f9eea5986a0eefde609348080cecd8369ee3b"), looks := false }, kinds := [], alts := [], laidByText := true, laidKinds := [.data], laidTests := true, laidLooks := .later }
def ShapeProductCardSaid : Prop := Claim7.holds Tryd.pinned (.plain (OpenSpec.ofChange shapeProductSpec)) shapeProductCard

/-- THE TIED CARD OF 'clearancelaw07.ShapeSteps'. -/
def shapeStepsCard : Claim7 := { stood := { row := shapeStepsRow, standIns := [], harness := (true, "05258c4ba6a251c92d8aee384c1f9eea5986a0eefde609348080cecd8369ee3b"), looks := false }, kinds := [], alts := [], laidByText := true, laidKinds := [.data], laidTests := true, laidLooks := .later }
def ShapeStepsCardSaid : Prop := Claim7.holds Tryd.pinned (.plain (OpenSpec.ofChange shapeStepsSpec)) shapeStepsCard

/-- THE SECOND FORM's CARD OF 'clearancelaw07.ShapeProduct'. -/
def shapeProductUptoCard : Claim7 := { stood := { row := shapeProductUptoRow, standIns := [], harness := (true, "05258c4ba6a251c92d8aee384c1f9eea5986a0eefde609348080cecd8369ee3b"), looks := false }, kinds := [], alts := [], laidByText := true, laidKinds := [.data], laidTests := true, laidLooks := .later }
def ShapeProductUptoCardSaid : Prop := Claim7.holds Tryd.pinned (.plain (OpenSpec.upto shapeProductSpec)) shapeProductUptoCard

/-- THE SECOND FORM's CARD OF 'clearancelaw07.ShapeSteps'. -/
def shapeStepsUptoCard : Claim7 := { stood := { row := shapeStepsUptoRow, standIns := [], harness := (true, "05258c4ba6a251c92d8aee384c1f9eea5986a0eefde609348080cecd8369ee3b"), looks := false }, kinds := [], alts := [], laidByText := true, laidKinds := [.data], laidTests := true, laidLooks := .later }
def ShapeStepsUptoCardSaid : Prop := Claim7.holds Tryd.pinned (.plain (OpenSpec.upto shapeStepsSpec)) shapeStepsUptoCard
end Rows
end Go.Proofs.YtpgkcddhpeoiiaaDoor
