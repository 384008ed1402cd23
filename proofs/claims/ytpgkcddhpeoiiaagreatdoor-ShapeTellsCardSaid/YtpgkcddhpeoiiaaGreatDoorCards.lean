/-
  DERIVED. GIVEN WITH THE SEED: THE CARDS: each row of YtpgkcddhpeoiiaaGreatDoorRows.lean that lists a variable, with what it lists TIED to the program's text (the seventh form; the later family's looks); each row that meets fmt, with fmt's text TOLD by the authors' own Lean function (tested against real Go, not proved from fmt's source: count such statements apart). THE CARD IS WHAT COUNTS. Prove the row's statement (the work); the ties are given (YtpgkcddhpeoiiaaGreatDoorTie.lean); close each card by the builder's one call (the guide's Derived/Test/ToyasCard.lean, 'card_holds'). Laid BY PROGRAM, IN A SANDBOX (cutbox-door.mjs). By AI agents, Wed Nov 11 2026. No macro, syntax, notation, axiom, sorry.
-/
import Derived.Test.YtpgkcddhpeoiiaaGreatDoorRows
import GoSem.ClaimSeven
namespace Go.Proofs.YtpgkcddhpeoiiaaGreatDoor
namespace Rows

/-- THE TIED CARD OF 'clearancelaw07.ShapeTells'. -/
def shapeTellsCard : Claim7 := { stood := { row := shapeTellsRow, standIns := [], harness := (true, "dabb3be8d3567f0f3087a7c2357691561cf9cb9ae0fa5947ae4b1f2d80d572a5"), looks := false }, kinds := [], alts := [], laidByText := true, laidKinds := [.data], laidTests := true, laidLooks := .later }
def ShapeTellsCardSaid : Prop := Claim7.holds Tryz.pinned (.plain (OpenSpec.ofChange shapeTellsSpec)) shapeTellsCard

/-- THE TIED CARD OF 'clearancelaw07.ShapeOps'. -/
def shapeOpsCard : Claim7 := { stood := { row := shapeOpsRow, standIns := [], harness := (true, "dabb3be8d3567f0f3087a7c2357691561cf9cb9ae0fa5947ae4b1f2d80d572a5"), looks := false }, kinds := [], alts := [], laidByText := true, laidKinds := [.data], laidTests := true, laidLooks := .later }
def ShapeOpsCardSaid : Prop := Claim7.holds Tryz.pinned (.plain (OpenSpec.ofChange shapeOpsSpec)) shapeOpsCard

/-- THE TIED CARD OF 'clearancelaw07.ShapeLattice'. -/
def shapeLatticeCard : Claim7 := { stood := { row := shapeLatticeRow, standIns := [], harness := (true, "dabb3be8d3567f0f3087a7c2357691561cf9cb9ae0fa5947ae4b1f2d80d572a5"), looks := false }, kinds := [], alts := [], laidByText := true, laidKinds := [.data], laidTests := true, laidLooks := .later }
def ShapeLatticeCardSaid : Prop := Claim7.holds Tryz.pinned (.plain (OpenSpec.ofChange shapeLatticeSpec)) shapeLatticeCard

/-- THE SECOND FORM's CARD OF 'clearancelaw07.ShapeTells'. -/
def shapeTellsUptoCard : Claim7 := { stood := { row := shapeTellsUptoRow, standIns := [], harness := (true, "dabb3be8d3567f0f3087a7c2357691561cf9cb9ae0fa5947ae4b1f2d80d572a5"), looks := false }, kinds := [], alts := [], laidByText := true, laidKinds := [.data], laidTests := true, laidLooks := .later }
def ShapeTellsUptoCardSaid : Prop := Claim7.holds Tryz.pinned (.plain (OpenSpec.upto shapeTellsSpec)) shapeTellsUptoCard

/-- THE SECOND FORM's CARD OF 'clearancelaw07.ShapeOps'. -/
def shapeOpsUptoCard : Claim7 := { stood := { row := shapeOpsUptoRow, standIns := [], harness := (true, "dabb3be8d3567f0f3087a7c2357691561cf9cb9ae0fa5947ae4b1f2d80d572a5"), looks := false }, kinds := [], alts := [], laidByText := true, laidKinds := [.data], laidTests := true, laidLooks := .later }
def ShapeOpsUptoCardSaid : Prop := Claim7.holds Tryz.pinned (.plain (OpenSpec.upto shapeOpsSpec)) shapeOpsUptoCard

/-- THE SECOND FORM's CARD OF 'clearancelaw07.ShapeLattice'. -/
def shapeLatticeUptoCard : Claim7 := { stood := { row := shapeLatticeUptoRow, standIns := [], harness := (true, "dabb3be8d3567f0f3087a7c2357691561cf9cb9ae0fa5947ae4b1f2d80d572a5"), looks := false }, kinds := [], alts := [], laidByText := true, laidKinds := [.data], laidTests := true, laidLooks := .later }
def ShapeLatticeUptoCardSaid : Prop := Claim7.holds Tryz.pinned (.plain (OpenSpec.upto shapeLatticeSpec)) shapeLatticeUptoCard
end Rows
end Go.Proofs.YtpgkcddhpeoiiaaGreatDoor
