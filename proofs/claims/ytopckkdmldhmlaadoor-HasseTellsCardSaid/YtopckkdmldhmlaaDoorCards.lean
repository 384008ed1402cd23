/-
  DERIVED. GIVEN WITH THE SEED: THE CARDS: each row of YtopckkdmldhmlaaDoorRows.lean that lists a variable, with what it lists TIED to the program's text (the seventh form; the later family's looks); each row that meets fmt, with fmt's text TOLD by the authors' own Lean function (tested against real Go, not proved from fmt's source: count such statements apart). THE CARD IS WHAT COUNTS. Prove the row's statement (the work); the ties are given (YtopckkdmldhmlaaDoorTie.lean); close each card by the builder's one call (the guide's Derived/Test/ToyasCard.lean, 'card_holds'). Laid BY PROGRAM, IN A SANDBOX (cutbox-door.mjs). By AI agents, Wed Nov 11 2026. No macro, syntax, notation, axiom, sorry.
-/
import Derived.Test.YtopckkdmldhmlaaDoorRows
import GoSem.ClaimSeven
namespace Go.Proofs.YtopckkdmldhmlaaDoor
namespace Rows

/-- THE TIED CARD OF 'clearancelaw06.HasseBounds'. -/
def hasseBoundsCard : Claim7 := { stood := { row := hasseBoundsRow, standIns := [], harness := (true, "0ff5d277c94960d376d1746ce8ec92db240ad887dbbfa8fb2fb7146df9848858"), looks := false }, kinds := [], alts := [], laidByText := true, laidKinds := [.data], laidTests := true, laidLooks := .later }
def HasseBoundsCardSaid : Prop := Claim7.holds Tryd.pinned (.plain (OpenSpec.ofChange hasseBoundsSpec)) hasseBoundsCard

/-- THE TIED CARD OF 'clearancelaw06.HasseTells'. -/
def hasseTellsCard : Claim7 := { stood := { row := hasseTellsRow, standIns := [], harness := (true, "0ff5d277c94960d376d1746ce8ec92db240ad887dbbfa8fb2fb7146df9848858"), looks := false }, kinds := [], alts := [], laidByText := true, laidKinds := [.data], laidTests := true, laidLooks := .later }
def HasseTellsCardSaid : Prop := Claim7.holds Tryd.pinned (.plain (OpenSpec.ofChange hasseTellsSpec)) hasseTellsCard

/-- THE TIED CARD OF 'clearancelaw06.HasseWords'. -/
def hasseWordsCard : Claim7 := { stood := { row := hasseWordsRow, standIns := [], harness := (true, "0ff5d277c94960d376d1746ce8ec92db240ad887dbbfa8fb2fb7146df9848858"), looks := false }, kinds := [], alts := [], laidByText := true, laidKinds := [.data], laidTests := true, laidLooks := .later }
def HasseWordsCardSaid : Prop := Claim7.holds Tryd.pinned (.plain (OpenSpec.ofChange hasseWordsSpec)) hasseWordsCard

/-- THE TIED CARD OF 'clearancelaw06.HasseLattice'. -/
def hasseLatticeCard : Claim7 := { stood := { row := hasseLatticeRow, standIns := [], harness := (true, "0ff5d277c94960d376d1746ce8ec92db240ad887dbbfa8fb2fb7146df9848858"), looks := false }, kinds := [], alts := [], laidByText := true, laidKinds := [.data], laidTests := true, laidLooks := .later }
def HasseLatticeCardSaid : Prop := Claim7.holds Tryd.pinned (.plain (OpenSpec.ofChange hasseLatticeSpec)) hasseLatticeCard

/-- THE TIED CARD OF 'clearancelaw06.HasseBack'. -/
def hasseBackCard : Claim7 := { stood := { row := hasseBackRow, standIns := [], harness := (true, "0ff5d277c94960d376d1746ce8ec92db240ad887dbbfa8fb2fb7146df9848858"), looks := false }, kinds := [], alts := [], laidByText := true, laidKinds := [.data], laidTests := true, laidLooks := .later }
def HasseBackCardSaid : Prop := Claim7.holds Tryd.pinned (.plain (OpenSpec.ofChange hasseBackSpec)) hasseBackCard

/-- THE SECOND FORM's CARD OF 'clearancelaw06.HasseBounds'. -/
def hasseBoundsUptoCard : Claim7 := { stood := { row := hasseBoundsUptoRow, standIns := [], harness := (true, "0ff5d277c94960d376d1746ce8ec92db240ad887dbbfa8fb2fb7146df9848858"), looks := false }, kinds := [], alts := [], laidByText := true, laidKinds := [.data], laidTests := true, laidLooks := .later }
def HasseBoundsUptoCardSaid : Prop := Claim7.holds Tryd.pinned (.plain (OpenSpec.upto hasseBoundsSpec)) hasseBoundsUptoCard

/-- THE SECOND FORM's CARD OF 'clearancelaw06.HasseTells'. -/
def hasseTellsUptoCard : Claim7 := { stood := { row := hasseTellsUptoRow, standIns := [], harness := (true, "0ff5d277c94960d376d1746ce8ec92db240ad887dbbfa8fb2fb7146df9848858"), looks := false }, kinds := [], alts := [], laidByText := true, laidKinds := [.data], laidTests := true, laidLooks := .later }
def HasseTellsUptoCardSaid : Prop := Claim7.holds Tryd.pinned (.plain (OpenSpec.upto hasseTellsSpec)) hasseTellsUptoCard

/-- THE SECOND FORM's CARD OF 'clearancelaw06.HasseWords'. -/
def hasseWordsUptoCard : Claim7 := { stood := { row := hasseWordsUptoRow, standIns := [], harness := (true, "0ff5d277c94960d376d1746ce8ec92db240ad887dbbfa8fb2fb7146df9848858"), looks := false }, kinds := [], alts := [], laidByText := true, laidKinds := [.data], laidTests := true, laidLooks := .later }
def HasseWordsUptoCardSaid : Prop := Claim7.holds Tryd.pinned (.plain (OpenSpec.upto hasseWordsSpec)) hasseWordsUptoCard

/-- THE SECOND FORM's CARD OF 'clearancelaw06.HasseLattice'. -/
def hasseLatticeUptoCard : Claim7 := { stood := { row := hasseLatticeUptoRow, standIns := [], harness := (true, "0ff5d277c94960d376d1746ce8ec92db240ad887dbbfa8fb2fb7146df9848858"), looks := false }, kinds := [], alts := [], laidByText := true, laidKinds := [.data], laidTests := true, laidLooks := .later }
def HasseLatticeUptoCardSaid : Prop := Claim7.holds Tryd.pinned (.plain (OpenSpec.upto hasseLatticeSpec)) hasseLatticeUptoCard

/-- THE SECOND FORM's CARD OF 'clearancelaw06.HasseBack'. -/
def hasseBackUptoCard : Claim7 := { stood := { row := hasseBackUptoRow, standIns := [], harness := (true, "0ff5d277c94960d376d1746ce8ec92db240ad887dbbfa8fb2fb7146df9848858"), looks := false }, kinds := [], alts := [], laidByText := true, laidKinds := [.data], laidTests := true, laidLooks := .later }
def HasseBackUptoCardSaid : Prop := Claim7.holds Tryd.pinned (.plain (OpenSpec.upto hasseBackSpec)) hasseBackUptoCard
end Rows
end Go.Proofs.YtopckkdmldhmlaaDoor
