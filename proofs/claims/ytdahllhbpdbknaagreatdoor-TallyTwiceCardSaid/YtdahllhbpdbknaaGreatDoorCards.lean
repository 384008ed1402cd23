/-
  DERIVED. GIVEN WITH THE SEED: THE CARDS: each row of YtdahllhbpdbknaaGreatDoorRows.lean that lists a variable, with what it lists TIED to the program's text (the seventh form; the later family's looks); each row that meets fmt, with fmt's text TOLD by the authors' own Lean function (tested against real Go, not proved from fmt's source: count such statements apart). THE CARD IS WHAT COUNTS. Prove the row's statement (the work); the ties are given (YtdahllhbpdbknaaGreatDoorTie.lean); close each card by the builder's one call (the guide's Derived/Test/ToyasCard.lean, 'card_holds'). Laid BY PROGRAM, IN A SANDBOX (cutbox-door.mjs). By AI agents, Wed Nov 11 2026. No macro, syntax, notation, axiom, sorry.
-/
import Derived.Test.YtdahllhbpdbknaaGreatDoorRows
import GoSem.ClaimSeven
namespace Go.Proofs.YtdahllhbpdbknaaGreatDoor
namespace Rows

/-- THE TIED CARD OF 'clearancelaw17.TallyOf'. -/
def tallyOfCard : Claim7 := { stood := { row := tallyOfRow, standIns := [], harness := (true, "8e7ec98c03a54efb9e1d555c5d216b71b505257eacdcfff579bad2e466aad0b6"), looks := false }, kinds := [], alts := [], laidByText := true, laidKinds := [.data], laidTests := true, laidLooks := .later }
def TallyOfCardSaid : Prop := Claim7.holds Tryz.pinned (.plain (OpenSpec.ofChange tallyOfSpec)) tallyOfCard

/-- THE TIED CARD OF 'clearancelaw17.TallyCounts'. -/
def tallyCountsCard : Claim7 := { stood := { row := tallyCountsRow, standIns := [], harness := (true, "8e7ec98c03a54efb9e1d555c5d216b71b505257eacdcfff579bad2e466aad0b6"), looks := false }, kinds := [], alts := [], laidByText := true, laidKinds := [.data], laidTests := true, laidLooks := .later }
def TallyCountsCardSaid : Prop := Claim7.holds Tryz.pinned (.plain (OpenSpec.ofChange tallyCountsSpec)) tallyCountsCard

/-- THE TIED CARD OF 'clearancelaw17.TallyTwice'. -/
def tallyTwiceCard : Claim7 := { stood := { row := tallyTwiceRow, standIns := [], harness := (true, "8e7ec98c03a54efb9e1d555c5d216b71b505257eacdcfff579bad2e466aad0b6"), looks := false }, kinds := [], alts := [], laidByText := true, laidKinds := [.data], laidTests := true, laidLooks := .later }
def TallyTwiceCardSaid : Prop := Claim7.holds Tryz.pinned (.plain (OpenSpec.ofChange tallyTwiceSpec)) tallyTwiceCard

/-- THE SECOND FORM's CARD OF 'clearancelaw17.TallyOf'. -/
def tallyOfUptoCard : Claim7 := { stood := { row := tallyOfUptoRow, standIns := [], harness := (true, "8e7ec98c03a54efb9e1d555c5d216b71b505257eacdcfff579bad2e466aad0b6"), looks := false }, kinds := [], alts := [], laidByText := true, laidKinds := [.data], laidTests := true, laidLooks := .later }
def TallyOfUptoCardSaid : Prop := Claim7.holds Tryz.pinned (.plain (OpenSpec.upto tallyOfSpec)) tallyOfUptoCard

/-- THE SECOND FORM's CARD OF 'clearancelaw17.TallyCounts'. -/
def tallyCountsUptoCard : Claim7 := { stood := { row := tallyCountsUptoRow, standIns := [], harness := (true, "8e7ec98c03a54efb9e1d555c5d216b71b505257eacdcfff579bad2e466aad0b6"), looks := false }, kinds := [], alts := [], laidByText := true, laidKinds := [.data], laidTests := true, laidLooks := .later }
def TallyCountsUptoCardSaid : Prop := Claim7.holds Tryz.pinned (.plain (OpenSpec.upto tallyCountsSpec)) tallyCountsUptoCard

/-- THE SECOND FORM's CARD OF 'clearancelaw17.TallyTwice'. -/
def tallyTwiceUptoCard : Claim7 := { stood := { row := tallyTwiceUptoRow, standIns := [], harness := (true, "8e7ec98c03a54efb9e1d555c5d216b71b505257eacdcfff579bad2e466aad0b6"), looks := false }, kinds := [], alts := [], laidByText := true, laidKinds := [.data], laidTests := true, laidLooks := .later }
def TallyTwiceUptoCardSaid : Prop := Claim7.holds Tryz.pinned (.plain (OpenSpec.upto tallyTwiceSpec)) tallyTwiceUptoCard
end Rows
end Go.Proofs.YtdahllhbpdbknaaGreatDoor
