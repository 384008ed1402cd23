/-
  DERIVED. GIVEN WITH THE SEED: THE CARDS: each row of YtkgonoejnochjaaGreatDoorRows.lean that lists a variable, with what it lists TIED to the program's text (the seventh form; the later family's looks); each row that meets fmt, with fmt's text TOLD by the authors' own Lean function (tested against real Go, not proved from fmt's source: count such statements apart). THE CARD IS WHAT COUNTS. Prove the row's statement (the work); the ties are given (YtkgonoejnochjaaGreatDoorTie.lean); close each card by the builder's one call (the guide's Derived/Test/ToyasCard.lean, 'card_holds'). Laid BY PROGRAM, IN A SANDBOX (cutbox-door.mjs). By AI agents, Wed Nov 11 2026. No macro, syntax, notation, axiom, sorry.
-/
import Derived.Test.YtkgonoejnochjaaGreatDoorRows
import GoSem.ClaimSeven
namespace Go.Proofs.YtkgonoejnochjaaGreatDoor
namespace Rows

/-- THE TIED CARD OF 'clearancelaw11.SpellElem'. -/
def spellElemCard : Claim7 := { stood := { row := spellElemRow, standIns := [], harness := (true, "8faf2eb73fd81580507affbc258d7e004a281a7ac4491bdf84e610b2f856e721"), looks := false }, kinds := [], alts := [], laidByText := true, laidKinds := [.data], laidTests := true, laidLooks := .later }
def SpellElemCardSaid : Prop := Claim7.holds Tryz.pinned (.plain (OpenSpec.ofChange spellElemSpec)) spellElemCard

/-- THE TIED CARD OF 'clearancelaw11.SpellNode'. -/
def spellNodeCard : Claim7 := { stood := { row := spellNodeRow, standIns := [], harness := (true, "8faf2eb73fd81580507affbc258d7e004a281a7ac4491bdf84e610b2f856e721"), looks := false }, kinds := [], alts := [], laidByText := true, laidKinds := [.data], laidTests := true, laidLooks := .later }
def SpellNodeCardSaid : Prop := Claim7.holds Tryz.pinned (.plain (OpenSpec.ofChange spellNodeSpec)) spellNodeCard

/-- THE TIED CARD OF 'clearancelaw11.SpellBack'. -/
def spellBackCard : Claim7 := { stood := { row := spellBackRow, standIns := [], harness := (true, "8faf2eb73fd81580507affbc258d7e004a281a7ac4491bdf84e610b2f856e721"), looks := false }, kinds := [], alts := [], laidByText := true, laidKinds := [.data], laidTests := true, laidLooks := .later }
def SpellBackCardSaid : Prop := Claim7.holds Tryz.pinned (.plain (OpenSpec.ofChange spellBackSpec)) spellBackCard

/-- THE TIED CARD OF 'clearancelaw11.SpellSound'. -/
def spellSoundCard : Claim7 := { stood := { row := spellSoundRow, standIns := [], harness := (true, "8faf2eb73fd81580507affbc258d7e004a281a7ac4491bdf84e610b2f856e721"), looks := false }, kinds := [], alts := [], laidByText := true, laidKinds := [.data], laidTests := true, laidLooks := .later }
def SpellSoundCardSaid : Prop := Claim7.holds Tryz.pinned (.plain (OpenSpec.ofChange spellSoundSpec)) spellSoundCard

/-- THE SECOND FORM's CARD OF 'clearancelaw11.SpellElem'. -/
def spellElemUptoCard : Claim7 := { stood := { row := spellElemUptoRow, standIns := [], harness := (true, "8faf2eb73fd81580507affbc258d7e004a281a7ac4491bdf84e610b2f856e721"), looks := false }, kinds := [], alts := [], laidByText := true, laidKinds := [.data], laidTests := true, laidLooks := .later }
def SpellElemUptoCardSaid : Prop := Claim7.holds Tryz.pinned (.plain (OpenSpec.upto spellElemSpec)) spellElemUptoCard

/-- THE SECOND FORM's CARD OF 'clearancelaw11.SpellNode'. -/
def spellNodeUptoCard : Claim7 := { stood := { row := spellNodeUptoRow, standIns := [], harness := (true, "8faf2eb73fd81580507affbc258d7e004a281a7ac4491bdf84e610b2f856e721"), looks := false }, kinds := [], alts := [], laidByText := true, laidKinds := [.data], laidTests := true, laidLooks := .later }
def SpellNodeUptoCardSaid : Prop := Claim7.holds Tryz.pinned (.plain (OpenSpec.upto spellNodeSpec)) spellNodeUptoCard

/-- THE SECOND FORM's CARD OF 'clearancelaw11.SpellBack'. -/
def spellBackUptoCard : Claim7 := { stood := { row := spellBackUptoRow, standIns := [], harness := (true, "8faf2eb73fd81580507affbc258d7e004a281a7ac4491bdf84e610b2f856e721"), looks := false }, kinds := [], alts := [], laidByText := true, laidKinds := [.data], laidTests := true, laidLooks := .later }
def SpellBackUptoCardSaid : Prop := Claim7.holds Tryz.pinned (.plain (OpenSpec.upto spellBackSpec)) spellBackUptoCard

/-- THE SECOND FORM's CARD OF 'clearancelaw11.SpellSound'. -/
def spellSoundUptoCard : Claim7 := { stood := { row := spellSoundUptoRow, standIns := [], harness := (true, "8faf2eb73fd81580507affbc258d7e004a281a7ac4491bdf84e610b2f856e721"), looks := false }, kinds := [], alts := [], laidByText := true, laidKinds := [.data], laidTests := true, laidLooks := .later }
def SpellSoundUptoCardSaid : Prop := Claim7.holds Tryz.pinned (.plain (OpenSpec.upto spellSoundSpec)) spellSoundUptoCard
end Rows
end Go.Proofs.YtkgonoejnochjaaGreatDoor
