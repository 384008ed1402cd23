/-
  NARROWER THAN 'FOR EVERY INPUT', by the rows' own cells (each row's printed sentence says how): CommandTells: loops, laid · CommandBack: loops, laid · CommandAgain: laid.
  DERIVED. THE GIVEN ROWS OF THIS SEAT. 3 by the template 'for every input the law returns true; each argument reads behind the call as it read before'; 0 by the template 'total and deterministic' (their statements: YtmffnkfohmbbeaaGreatDoorTotals.lean).
  GIVEN WITH THE SEED: the statements are not yours to turn. If you find one false, say at which input.
  Laid BY PROGRAM, IN A SANDBOX (cutbox-rows.mjs): the forced cells as the released guide's own fill.sh prints them over the translation d826311494285774… (all of the seat's roots in one cut). By AI agents, Wed Nov 11 2026. No macro, syntax, notation, axiom, sorry.
-/
import Derived.Test.YtmffnkfohmbbeaaGreatDoorChecked
import GoSem.Claim
import GoSem.ClaimJoined
import GoSem.ClaimMapViews
import Derived.JoinedTies
import Derived.KernelRfl
namespace Go.Proofs.YtmffnkfohmbbeaaGreatDoor
/- THE CELL 'sum', in the pinned program and in every row, IS THE sha256 OF THE DUMP (.gsa) THAT YtmffnkfohmbbeaaGreatDoorProg.lean LOADS. Nothing in Lean hashes anything: it is a label: what it is worth is what the hold of that sum in a sandbox is worth. -/
noncomputable def Tryz.pinned : Pinned := { name := "ytmffnkfohmbbeaagreatdoor", sum := "d826311494285774dcfea75b59926ceb2e3b05ecc7a3c40a59a06b181a31d827", checked := Tryz.checked }
namespace Rows
def none {H : Type} : Left H := { results := [], args := [] }

/- WHAT THE LISTED PACKAGE-LEVEL VARIABLES READ AS WHEN THE CALL BEGINS. Each datum BY PROGRAM (the guide's laid-datum.mjs) off the statement by which the dump's own 'gosem.cut.vars' lays the variable. In a bare row this is a premise. The card (YtmffnkfohmbbeaaGreatDoorCards.lean) ties it to the program's text. -/
def laid_clearance_command_commands {H : Type} : DataW H := .agg [.agg [.lit (.string []), .lit (.string [])], .agg [.lit (.string [99, 104, 97, 105, 110]), .lit (.string [110, 119])], .agg [.lit (.string [112, 111, 119, 101, 114]), .lit (.string [110, 119])], .agg [.lit (.string [112, 114, 111, 100, 117, 99, 116]), .lit (.string [110, 119])], .agg [.lit (.string [103, 114, 105, 100]), .lit (.string [110, 119, 112])], .agg [.lit (.string [116, 97, 98, 108, 101]), .lit (.string [110, 119, 112])], .agg [.lit (.string [108, 97, 98, 101, 108]), .lit (.string [110, 119])], .agg [.lit (.string [114, 111, 119]), .lit (.string [110, 119])], .agg [.lit (.string [108, 101, 113]), .lit (.string [110, 116, 116])], .agg [.lit (.string [114, 111, 119, 101, 113]), .lit (.string [110, 114, 114])], .agg [.lit (.string [108, 97, 99, 107, 115]), .lit (.string [110, 102])], .agg [.lit (.string [112, 117, 115, 104]), .lit (.string [])], .agg [.lit (.string [112, 111, 112]), .lit (.string [])], .agg [.lit (.string [99, 104, 101, 99, 107]), .lit (.string [])], .agg [.lit (.string [99, 111, 114, 101]), .lit (.string [])], .agg [.lit (.string [119, 104, 121]), .lit (.string [110])]]

/-- 'clearancelaw12.CommandTells': WHATEVER THE INPUT: true; the input reads as it did. -/
def commandTellsSpec : ChangeSpec := { name := "commandTells", fn := fun _ => fun
  | [d1, d2, d3] => { results := [.lit (.bool true)], args := [d1, d2, d3] }
  | _ => none }
def commandTellsRow : OpenClaim := { program := "ytmffnkfohmbbeaagreatdoor", sum := "d826311494285774dcfea75b59926ceb2e3b05ecc7a3c40a59a06b181a31d827", func := "clearance/clearancelaw12.CommandTells", spec := "commandTells", inPlace := ["internal/bytealg.IndexByteString", "internal/abi.NoEscape", "internal/bytealg.MakeNoZero"], unfollowed := true, recurses := true, named := ["clearance/command.commands"], loops := true, apart := false, laid := [("clearance/command.commands", laid_clearance_command_commands)] }
def CommandTellsSaid : Prop := commandTellsRow.holds Tryz.pinned (OpenSpec.ofChange commandTellsSpec)

/-- ITS FALSE NEIGHBOUR: 'it returns false'. Refute it at one input. -/
def commandTellsWrong : ChangeSpec := { name := "commandTells", fn := fun _ => fun
  | [d1, d2, d3] => { results := [.lit (.bool false)], args := [d1, d2, d3] }
  | _ => none }
def CommandTellsWrongFalsely : Prop := commandTellsRow.holds Tryz.pinned (OpenSpec.ofChange commandTellsWrong)

/-- 'clearancelaw12.CommandBack': WHATEVER THE INPUT: true; the input reads as it did. -/
def commandBackSpec : ChangeSpec := { name := "commandBack", fn := fun _ => fun
  | [d] => { results := [.lit (.bool true)], args := [d] }
  | _ => none }
def commandBackRow : OpenClaim := { program := "ytmffnkfohmbbeaagreatdoor", sum := "d826311494285774dcfea75b59926ceb2e3b05ecc7a3c40a59a06b181a31d827", func := "clearance/clearancelaw12.CommandBack", spec := "commandBack", inPlace := ["internal/bytealg.IndexByteString", "internal/abi.NoEscape", "internal/bytealg.MakeNoZero"], unfollowed := true, recurses := true, named := ["clearance/command.commands"], loops := true, apart := false, laid := [("clearance/command.commands", laid_clearance_command_commands)] }
def CommandBackSaid : Prop := commandBackRow.holds Tryz.pinned (OpenSpec.ofChange commandBackSpec)

/-- ITS FALSE NEIGHBOUR: 'it returns false'. Refute it at one input. -/
def commandBackWrong : ChangeSpec := { name := "commandBack", fn := fun _ => fun
  | [d] => { results := [.lit (.bool false)], args := [d] }
  | _ => none }
def CommandBackWrongFalsely : Prop := commandBackRow.holds Tryz.pinned (OpenSpec.ofChange commandBackWrong)

/-- 'clearancelaw12.CommandAgain': WHATEVER THE INPUT: true; the input reads as it did. -/
def commandAgainSpec : ChangeSpec := { name := "commandAgain", fn := fun _ => fun
  | [d] => { results := [.lit (.bool true)], args := [d] }
  | _ => none }
def commandAgainRow : OpenClaim := { program := "ytmffnkfohmbbeaagreatdoor", sum := "d826311494285774dcfea75b59926ceb2e3b05ecc7a3c40a59a06b181a31d827", func := "clearance/clearancelaw12.CommandAgain", spec := "commandAgain", inPlace := ["internal/bytealg.IndexByteString", "internal/abi.NoEscape", "internal/bytealg.MakeNoZero"], unfollowed := true, recurses := true, named := ["clearance/command.commands"], apart := false, laid := [("clearance/command.commands", laid_clearance_command_commands)] }
def CommandAgainSaid : Prop := commandAgainRow.holds Tryz.pinned (OpenSpec.ofChange commandAgainSpec)

/-- ITS FALSE NEIGHBOUR: 'it returns false'. Refute it at one input. -/
def commandAgainWrong : ChangeSpec := { name := "commandAgain", fn := fun _ => fun
  | [d] => { results := [.lit (.bool false)], args := [d] }
  | _ => none }
def CommandAgainWrongFalsely : Prop := commandAgainRow.holds Tryz.pinned (OpenSpec.ofChange commandAgainWrong)

/- THE SECOND FORM. 'bulk': how many values and letters a reading holds, each counted each time it is reached (what is shared counts as often as it is met; a slice's spare places count too). A statement '..UptoSaid' is the law's where the arguments, and the package variables that the reading takes, are together of bulk at most 1048576: NARROWER than '..Said'. Prove '..Said' where nothing that the law and all that it calls make is longer than what came in: it says more and counts as full. Else prove '..UptoSaid'. A law counts once. -/
mutual
def uptoBulk {H : Type} : DataW H → Nat
  | .lit (.string bytes) => bytes.length + 1
  | .lit _ => 1
  | .nil => 1
  | .ptr d => uptoBulk d + 1
  | .slice elems spare => uptoBulkAll elems + uptoBulkAll spare + 1
  | .agg parts => uptoBulkAll parts + 1
  | .iface _ d => uptoBulk d + 1
  | .map entries => uptoBulkEntries entries + 1
  | .held _ => 1
def uptoBulkAll {H : Type} : List (DataW H) → Nat
  | [] => 0
  | d :: r => uptoBulk d + uptoBulkAll r
def uptoBulkEntries {H : Type} : List (Lit × DataW H) → Nat
  | [] => 0
  | x :: r => uptoBulkEntry x + uptoBulkEntries r
def uptoBulkEntry {H : Type} : Lit × DataW H → Nat
  | (.string bytes, d) => bytes.length + uptoBulk d + 1
  | (_, d) => uptoBulk d + 1
 end
def uptoSmall : (H : Type) → List (DataW H) → Bool := fun _ ds => decide (uptoBulkAll ds ≤ 1048576)
def OpenSpec.upto (s : _root_.Go.ChangeSpec) : _root_.Go.OpenSpec := { _root_.Go.OpenSpec.ofChange s with cond := some uptoSmall }

/-- 'clearancelaw12.CommandTells', WHERE WHAT IT READS IS OF BULK AT MOST 1048576: true; the input reads as it did. -/
def commandTellsUptoRow : OpenClaim := { program := "ytmffnkfohmbbeaagreatdoor", sum := "d826311494285774dcfea75b59926ceb2e3b05ecc7a3c40a59a06b181a31d827", func := "clearance/clearancelaw12.CommandTells", spec := "commandTells", inPlace := ["internal/bytealg.IndexByteString", "internal/abi.NoEscape", "internal/bytealg.MakeNoZero"], unfollowed := true, recurses := true, named := ["clearance/command.commands"], loops := true, apart := false, laid := [("clearance/command.commands", laid_clearance_command_commands)], narrowed := true }
def CommandTellsUptoSaid : Prop := commandTellsUptoRow.holds Tryz.pinned (OpenSpec.upto commandTellsSpec)

/-- 'clearancelaw12.CommandBack', WHERE WHAT IT READS IS OF BULK AT MOST 1048576: true; the input reads as it did. -/
def commandBackUptoRow : OpenClaim := { program := "ytmffnkfohmbbeaagreatdoor", sum := "d826311494285774dcfea75b59926ceb2e3b05ecc7a3c40a59a06b181a31d827", func := "clearance/clearancelaw12.CommandBack", spec := "commandBack", inPlace := ["internal/bytealg.IndexByteString", "internal/abi.NoEscape", "internal/bytealg.MakeNoZero"], unfollowed := true, recurses := true, named := ["clearance/command.commands"], loops := true, apart := false, laid := [("clearance/command.commands", laid_clearance_command_commands)], narrowed := true }
def CommandBackUptoSaid : Prop := commandBackUptoRow.holds Tryz.pinned (OpenSpec.upto commandBackSpec)

/-- 'clearancelaw12.CommandAgain', WHERE WHAT IT READS IS OF BULK AT MOST 1048576: true; the input reads as it did. -/
def commandAgainUptoRow : OpenClaim := { program := "ytmffnkfohmbbeaagreatdoor", sum := "d826311494285774dcfea75b59926ceb2e3b05ecc7a3c40a59a06b181a31d827", func := "clearance/clearancelaw12.CommandAgain", spec := "commandAgain", inPlace := ["internal/bytealg.IndexByteString", "internal/abi.NoEscape", "internal/bytealg.MakeNoZero"], unfollowed := true, recurses := true, named := ["clearance/command.commands"], apart := false, laid := [("clearance/command.commands", laid_clearance_command_commands)], narrowed := true }
def CommandAgainUptoSaid : Prop := commandAgainUptoRow.holds Tryz.pinned (OpenSpec.upto commandAgainSpec)

end Rows
end Go.Proofs.YtmffnkfohmbbeaaGreatDoor
