/-
  NARROWER THAN 'FOR EVERY INPUT', by the rows' own cells (each row's printed sentence says how): CommandTells: loops, laid · CommandBack: loops, laid · CommandAgain: laid · ScopeFinds: laid · ScopeFaults: loops, laid · ScopeAdds: loops, laid · ScopeKeeps: loops, laid · ScopeLives: loops, laid.
  DERIVED. THE GIVEN ROWS OF THIS SEAT. 8 by the template 'for every input the law returns true; each argument reads behind the call as it read before'; 0 by the template 'total and deterministic' (their statements: YtcegiiaeeajfpaaGreatDoorTotals.lean).
  GIVEN WITH THE SEED: the statements are not yours to turn. If you find one false, say at which input.
  Laid BY PROGRAM, IN A SANDBOX (cutbox-rows.mjs): the forced cells as the released guide's own fill.sh prints them over the translation b4f8dc1d74862997… (all of the seat's roots in one cut). By AI agents, Wed Nov 11 2026. No macro, syntax, notation, axiom, sorry.
-/
import Derived.Test.YtcegiiaeeajfpaaGreatDoorChecked
import GoSem.Claim
import GoSem.ClaimJoined
import GoSem.ClaimMapViews
import Derived.JoinedTies
import Derived.KernelRfl
namespace Go.Proofs.YtcegiiaeeajfpaaGreatDoor
/- THE CELL 'sum', in the pinned program and in every row, IS THE sha256 OF THE DUMP (.gsa) THAT YtcegiiaeeajfpaaGreatDoorProg.lean LOADS. Nothing in Lean hashes anything: it is a label: what it is worth is what the hold of that sum in a sandbox is worth. -/
noncomputable def Tryz.pinned : Pinned := { name := "ytcegiiaeeajfpaagreatdoor", sum := "b4f8dc1d74862997d026288552314057d24e16e9162f120bb58deb8c6e0a7c9a", checked := Tryz.checked }
namespace Rows
def none {H : Type} : Left H := { results := [], args := [] }

/- WHAT THE LISTED PACKAGE-LEVEL VARIABLES READ AS WHEN THE CALL BEGINS. Each datum BY PROGRAM (the guide's laid-datum.mjs) off the statement by which the dump's own 'gosem.cut.vars' lays the variable. In a bare row this is a premise. The card (YtcegiiaeeajfpaaGreatDoorCards.lean) ties it to the program's text. -/
def laid_clearance_command_commands {H : Type} : DataW H := .agg [.agg [.lit (.string []), .lit (.string [])], .agg [.lit (.string [99, 104, 97, 105, 110]), .lit (.string [110, 119])], .agg [.lit (.string [112, 111, 119, 101, 114]), .lit (.string [110, 119])], .agg [.lit (.string [112, 114, 111, 100, 117, 99, 116]), .lit (.string [110, 119])], .agg [.lit (.string [103, 114, 105, 100]), .lit (.string [110, 119, 112])], .agg [.lit (.string [116, 97, 98, 108, 101]), .lit (.string [110, 119, 112])], .agg [.lit (.string [108, 97, 98, 101, 108]), .lit (.string [110, 119])], .agg [.lit (.string [114, 111, 119]), .lit (.string [110, 119])], .agg [.lit (.string [108, 101, 113]), .lit (.string [110, 116, 116])], .agg [.lit (.string [114, 111, 119, 101, 113]), .lit (.string [110, 114, 114])], .agg [.lit (.string [108, 97, 99, 107, 115]), .lit (.string [110, 102])], .agg [.lit (.string [112, 117, 115, 104]), .lit (.string [])], .agg [.lit (.string [112, 111, 112]), .lit (.string [])], .agg [.lit (.string [99, 104, 101, 99, 107]), .lit (.string [])], .agg [.lit (.string [99, 111, 114, 101]), .lit (.string [])], .agg [.lit (.string [119, 104, 121]), .lit (.string [110])]]
def laid_math_bits_deBruijn64tab {H : Type} : DataW H := .agg [.lit (.int .u8 0), .lit (.int .u8 1), .lit (.int .u8 56), .lit (.int .u8 2), .lit (.int .u8 57), .lit (.int .u8 49), .lit (.int .u8 28), .lit (.int .u8 3), .lit (.int .u8 61), .lit (.int .u8 58), .lit (.int .u8 42), .lit (.int .u8 50), .lit (.int .u8 38), .lit (.int .u8 29), .lit (.int .u8 17), .lit (.int .u8 4), .lit (.int .u8 62), .lit (.int .u8 47), .lit (.int .u8 59), .lit (.int .u8 36), .lit (.int .u8 45), .lit (.int .u8 43), .lit (.int .u8 51), .lit (.int .u8 22), .lit (.int .u8 53), .lit (.int .u8 39), .lit (.int .u8 33), .lit (.int .u8 30), .lit (.int .u8 24), .lit (.int .u8 18), .lit (.int .u8 12), .lit (.int .u8 5), .lit (.int .u8 63), .lit (.int .u8 55), .lit (.int .u8 48), .lit (.int .u8 27), .lit (.int .u8 60), .lit (.int .u8 41), .lit (.int .u8 37), .lit (.int .u8 16), .lit (.int .u8 46), .lit (.int .u8 35), .lit (.int .u8 44), .lit (.int .u8 21), .lit (.int .u8 52), .lit (.int .u8 32), .lit (.int .u8 23), .lit (.int .u8 11), .lit (.int .u8 54), .lit (.int .u8 26), .lit (.int .u8 40), .lit (.int .u8 15), .lit (.int .u8 34), .lit (.int .u8 20), .lit (.int .u8 31), .lit (.int .u8 10), .lit (.int .u8 25), .lit (.int .u8 14), .lit (.int .u8 19), .lit (.int .u8 9), .lit (.int .u8 13), .lit (.int .u8 8), .lit (.int .u8 7), .lit (.int .u8 6)]

/-- 'clearancelaw12.CommandTells': WHATEVER THE INPUT: true; the input reads as it did. -/
def commandTellsSpec : ChangeSpec := { name := "commandTells", fn := fun _ => fun
  | [d1, d2, d3] => { results := [.lit (.bool true)], args := [d1, d2, d3] }
  | _ => none }
def commandTellsRow : OpenClaim := { program := "ytcegiiaeeajfpaagreatdoor", sum := "b4f8dc1d74862997d026288552314057d24e16e9162f120bb58deb8c6e0a7c9a", func := "clearance/clearancelaw12.CommandTells", spec := "commandTells", inPlace := ["internal/bytealg.IndexByteString", "internal/abi.NoEscape", "internal/bytealg.MakeNoZero"], unfollowed := true, recurses := true, named := ["clearance/command.commands"], loops := true, apart := false, laid := [("clearance/command.commands", laid_clearance_command_commands)] }
def CommandTellsSaid : Prop := commandTellsRow.holds Tryz.pinned (OpenSpec.ofChange commandTellsSpec)

/-- ITS FALSE NEIGHBOUR: 'it returns false'. Refute it at one input. -/
def commandTellsWrong : ChangeSpec := { name := "commandTells", fn := fun _ => fun
  | [d1, d2, d3] => { results := [.lit (.bool false)], args := [d1, d2, d3] }
  | _ => none }
def CommandTellsWrongFalsely : Prop := commandTellsRow.holds Tryz.pinned (OpenSpec.ofChange commandTellsWrong)

/-- 'clearancelaw12.CommandBack': WHATEVER THE INPUT: true; the input reads as it did. -/
def commandBackSpec : ChangeSpec := { name := "commandBack", fn := fun _ => fun
  | [d] => { results := [.lit (.bool true)], args := [d] }
  | _ => none }
def commandBackRow : OpenClaim := { program := "ytcegiiaeeajfpaagreatdoor", sum := "b4f8dc1d74862997d026288552314057d24e16e9162f120bb58deb8c6e0a7c9a", func := "clearance/clearancelaw12.CommandBack", spec := "commandBack", inPlace := ["internal/bytealg.IndexByteString", "internal/abi.NoEscape", "internal/bytealg.MakeNoZero"], unfollowed := true, recurses := true, named := ["clearance/command.commands"], loops := true, apart := false, laid := [("clearance/command.commands", laid_clearance_command_commands)] }
def CommandBackSaid : Prop := commandBackRow.holds Tryz.pinned (OpenSpec.ofChange commandBackSpec)

/-- ITS FALSE NEIGHBOUR: 'it returns false'. Refute it at one input. -/
def commandBackWrong : ChangeSpec := { name := "commandBack", fn := fun _ => fun
  | [d] => { results := [.lit (.bool false)], args := [d] }
  | _ => none }
def CommandBackWrongFalsely : Prop := commandBackRow.holds Tryz.pinned (OpenSpec.ofChange commandBackWrong)

/-- 'clearancelaw12.CommandAgain': WHATEVER THE INPUT: true; the input reads as it did. -/
def commandAgainSpec : ChangeSpec := { name := "commandAgain", fn := fun _ => fun
  | [d] => { results := [.lit (.bool true)], args := [d] }
  | _ => none }
def commandAgainRow : OpenClaim := { program := "ytcegiiaeeajfpaagreatdoor", sum := "b4f8dc1d74862997d026288552314057d24e16e9162f120bb58deb8c6e0a7c9a", func := "clearance/clearancelaw12.CommandAgain", spec := "commandAgain", inPlace := ["internal/bytealg.IndexByteString", "internal/abi.NoEscape", "internal/bytealg.MakeNoZero"], unfollowed := true, recurses := true, named := ["clearance/command.commands"], apart := false, laid := [("clearance/command.commands", laid_clearance_command_commands)] }
def CommandAgainSaid : Prop := commandAgainRow.holds Tryz.pinned (OpenSpec.ofChange commandAgainSpec)

/-- ITS FALSE NEIGHBOUR: 'it returns false'. Refute it at one input. -/
def commandAgainWrong : ChangeSpec := { name := "commandAgain", fn := fun _ => fun
  | [d] => { results := [.lit (.bool false)], args := [d] }
  | _ => none }
def CommandAgainWrongFalsely : Prop := commandAgainRow.holds Tryz.pinned (OpenSpec.ofChange commandAgainWrong)

/-- 'clearancelaw13.ScopeFinds': WHATEVER THE INPUT: true; the input reads as it did. -/
def scopeFindsSpec : ChangeSpec := { name := "scopeFinds", fn := fun _ => fun
  | [d1, d2, d3] => { results := [.lit (.bool true)], args := [d1, d2, d3] }
  | _ => none }
def scopeFindsRow : OpenClaim := { program := "ytcegiiaeeajfpaagreatdoor", sum := "b4f8dc1d74862997d026288552314057d24e16e9162f120bb58deb8c6e0a7c9a", func := "clearance/clearancelaw13.ScopeFinds", spec := "scopeFinds", unfollowed := true, recurses := true, named := ["math/bits.deBruijn64tab"], apart := false, laid := [("math/bits.deBruijn64tab", laid_math_bits_deBruijn64tab)] }
def ScopeFindsSaid : Prop := scopeFindsRow.holds Tryz.pinned (OpenSpec.ofChange scopeFindsSpec)

/-- ITS FALSE NEIGHBOUR: 'it returns false'. Refute it at one input. -/
def scopeFindsWrong : ChangeSpec := { name := "scopeFinds", fn := fun _ => fun
  | [d1, d2, d3] => { results := [.lit (.bool false)], args := [d1, d2, d3] }
  | _ => none }
def ScopeFindsWrongFalsely : Prop := scopeFindsRow.holds Tryz.pinned (OpenSpec.ofChange scopeFindsWrong)

/-- 'clearancelaw13.ScopeFaults': WHATEVER THE INPUT: true; the input reads as it did. -/
def scopeFaultsSpec : ChangeSpec := { name := "scopeFaults", fn := fun _ => fun
  | [d1, d2] => { results := [.lit (.bool true)], args := [d1, d2] }
  | _ => none }
def scopeFaultsRow : OpenClaim := { program := "ytcegiiaeeajfpaagreatdoor", sum := "b4f8dc1d74862997d026288552314057d24e16e9162f120bb58deb8c6e0a7c9a", func := "clearance/clearancelaw13.ScopeFaults", spec := "scopeFaults", unfollowed := true, recurses := true, named := ["math/bits.deBruijn64tab"], loops := true, apart := false, laid := [("math/bits.deBruijn64tab", laid_math_bits_deBruijn64tab)] }
def ScopeFaultsSaid : Prop := scopeFaultsRow.holds Tryz.pinned (OpenSpec.ofChange scopeFaultsSpec)

/-- ITS FALSE NEIGHBOUR: 'it returns false'. Refute it at one input. -/
def scopeFaultsWrong : ChangeSpec := { name := "scopeFaults", fn := fun _ => fun
  | [d1, d2] => { results := [.lit (.bool false)], args := [d1, d2] }
  | _ => none }
def ScopeFaultsWrongFalsely : Prop := scopeFaultsRow.holds Tryz.pinned (OpenSpec.ofChange scopeFaultsWrong)

/-- 'clearancelaw13.ScopeAdds': WHATEVER THE INPUT: true; the input reads as it did. -/
def scopeAddsSpec : ChangeSpec := { name := "scopeAdds", fn := fun _ => fun
  | [d1, d2] => { results := [.lit (.bool true)], args := [d1, d2] }
  | _ => none }
def scopeAddsRow : OpenClaim := { program := "ytcegiiaeeajfpaagreatdoor", sum := "b4f8dc1d74862997d026288552314057d24e16e9162f120bb58deb8c6e0a7c9a", func := "clearance/clearancelaw13.ScopeAdds", spec := "scopeAdds", unfollowed := true, recurses := true, named := ["math/bits.deBruijn64tab"], loops := true, apart := false, laid := [("math/bits.deBruijn64tab", laid_math_bits_deBruijn64tab)] }
def ScopeAddsSaid : Prop := scopeAddsRow.holds Tryz.pinned (OpenSpec.ofChange scopeAddsSpec)

/-- ITS FALSE NEIGHBOUR: 'it returns false'. Refute it at one input. -/
def scopeAddsWrong : ChangeSpec := { name := "scopeAdds", fn := fun _ => fun
  | [d1, d2] => { results := [.lit (.bool false)], args := [d1, d2] }
  | _ => none }
def ScopeAddsWrongFalsely : Prop := scopeAddsRow.holds Tryz.pinned (OpenSpec.ofChange scopeAddsWrong)

/-- 'clearancelaw13.ScopeKeeps': WHATEVER THE INPUT: true; the input reads as it did. -/
def scopeKeepsSpec : ChangeSpec := { name := "scopeKeeps", fn := fun _ => fun
  | [d1, d2] => { results := [.lit (.bool true)], args := [d1, d2] }
  | _ => none }
def scopeKeepsRow : OpenClaim := { program := "ytcegiiaeeajfpaagreatdoor", sum := "b4f8dc1d74862997d026288552314057d24e16e9162f120bb58deb8c6e0a7c9a", func := "clearance/clearancelaw13.ScopeKeeps", spec := "scopeKeeps", unfollowed := true, recurses := true, named := ["math/bits.deBruijn64tab"], loops := true, apart := false, laid := [("math/bits.deBruijn64tab", laid_math_bits_deBruijn64tab)] }
def ScopeKeepsSaid : Prop := scopeKeepsRow.holds Tryz.pinned (OpenSpec.ofChange scopeKeepsSpec)

/-- ITS FALSE NEIGHBOUR: 'it returns false'. Refute it at one input. -/
def scopeKeepsWrong : ChangeSpec := { name := "scopeKeeps", fn := fun _ => fun
  | [d1, d2] => { results := [.lit (.bool false)], args := [d1, d2] }
  | _ => none }
def ScopeKeepsWrongFalsely : Prop := scopeKeepsRow.holds Tryz.pinned (OpenSpec.ofChange scopeKeepsWrong)

/-- 'clearancelaw13.ScopeLives': WHATEVER THE INPUT: true; the input reads as it did. -/
def scopeLivesSpec : ChangeSpec := { name := "scopeLives", fn := fun _ => fun
  | [d1, d2] => { results := [.lit (.bool true)], args := [d1, d2] }
  | _ => none }
def scopeLivesRow : OpenClaim := { program := "ytcegiiaeeajfpaagreatdoor", sum := "b4f8dc1d74862997d026288552314057d24e16e9162f120bb58deb8c6e0a7c9a", func := "clearance/clearancelaw13.ScopeLives", spec := "scopeLives", unfollowed := true, recurses := true, named := ["math/bits.deBruijn64tab"], loops := true, apart := false, laid := [("math/bits.deBruijn64tab", laid_math_bits_deBruijn64tab)] }
def ScopeLivesSaid : Prop := scopeLivesRow.holds Tryz.pinned (OpenSpec.ofChange scopeLivesSpec)

/-- ITS FALSE NEIGHBOUR: 'it returns false'. Refute it at one input. -/
def scopeLivesWrong : ChangeSpec := { name := "scopeLives", fn := fun _ => fun
  | [d1, d2] => { results := [.lit (.bool false)], args := [d1, d2] }
  | _ => none }
def ScopeLivesWrongFalsely : Prop := scopeLivesRow.holds Tryz.pinned (OpenSpec.ofChange scopeLivesWrong)

/- THE SECOND FORM. 'bulk': how many values and letters a reading holds, each counted each time it is reached (what is shared counts as often as it is met; a slice's spare places count too). A statement '..UptoSaid' is the law's where the arguments, and the package variables that the reading takes, are together of bulk at most 1048576: NARROWER than '..Said'. Prove '..Said' where nothing that the law and all that it calls make is longer than what came in: it says more and counts as full. Else prove '..UptoSaid'. A law counts once. -/
mutual
def uptoBulk {H : Type} : DataW H → Nat
  | .lit (.string bytes) => bytes.length + 1
  | .lit _ => 1
  | .nil => 1
  | .ptr d => uptoBulk d + 1
  | .slice elems spare => uptoBulkAll elems + uptoBulkAll spare + 1
  | .agg parts => uptoBulkAll parts + 1
  | .iface _ d => uptoBulk d + 1
  | .map entries => uptoBulkEntries entries + 1
  | .held _ => 1
def uptoBulkAll {H : Type} : List (DataW H) → Nat
  | [] => 0
  | d :: r => uptoBulk d + uptoBulkAll r
def uptoBulkEntries {H : Type} : List (Lit × DataW H) → Nat
  | [] => 0
  | x :: r => uptoBulkEntry x + uptoBulkEntries r
def uptoBulkEntry {H : Type} : Lit × DataW H → Nat
  | (.string bytes, d) => bytes.length + uptoBulk d + 1
  | (_, d) => uptoBulk d + 1
 end
def uptoSmall : (H : Type) → List (DataW H) → Bool := fun _ ds => decide (uptoBulkAll ds ≤ 1048576)
def OpenSpec.upto (s : _root_.Go.ChangeSpec) : _root_.Go.OpenSpec := { _root_.Go.OpenSpec.ofChange s with cond := some uptoSmall }

/-- 'clearancelaw12.CommandTells', WHERE WHAT IT READS IS OF BULK AT MOST 1048576: true; the input reads as it did. -/
def commandTellsUptoRow : OpenClaim := { program := "ytcegiiaeeajfpaagreatdoor", sum := "b4f8dc1d74862997d026288552314057d24e16e9162f120bb58deb8c6e0a7c9a", func := "clearance/clearancelaw12.CommandTells", spec := "commandTells", inPlace := ["internal/bytealg.IndexByteString", "internal/abi.NoEscape", "internal/bytealg.MakeNoZero"], unfollowed := true, recurses := true, named := ["clearance/command.commands"], loops := true, apart := false, laid := [("clearance/command.commands", laid_clearance_command_commands)], narrowed := true }
def CommandTellsUptoSaid : Prop := commandTellsUptoRow.holds Tryz.pinned (OpenSpec.upto commandTellsSpec)

/-- 'clearancelaw12.CommandBack', WHERE WHAT IT READS IS OF BULK AT MOST 1048576: true; the input reads as it did. -/
def commandBackUptoRow : OpenClaim := { program := "ytcegiiaeeajfpaagreatdoor", sum := "b4f8dc1d74862997d026288552314057d24e16e9162f120bb58deb8c6e0a7c9a", func := "clearance/clearancelaw12.CommandBack", spec := "commandBack", inPlace := ["internal/bytealg.IndexByteString", "internal/abi.NoEscape", "internal/bytealg.MakeNoZero"], unfollowed := true, recurses := true, named := ["clearance/command.commands"], loops := true, apart := false, laid := [("clearance/command.commands", laid_clearance_command_commands)], narrowed := true }
def CommandBackUptoSaid : Prop := commandBackUptoRow.holds Tryz.pinned (OpenSpec.upto commandBackSpec)

/-- 'clearancelaw12.CommandAgain', WHERE WHAT IT READS IS OF BULK AT MOST 1048576: true; the input reads as it did. -/
def commandAgainUptoRow : OpenClaim := { program := "ytcegiiaeeajfpaagreatdoor", sum := "b4f8dc1d74862997d026288552314057d24e16e9162f120bb58deb8c6e0a7c9a", func := "clearance/clearancelaw12.CommandAgain", spec := "commandAgain", inPlace := ["internal/bytealg.IndexByteString", "internal/abi.NoEscape", "internal/bytealg.MakeNoZero"], unfollowed := true, recurses := true, named := ["clearance/command.commands"], apart := false, laid := [("clearance/command.commands", laid_clearance_command_commands)], narrowed := true }
def CommandAgainUptoSaid : Prop := commandAgainUptoRow.holds Tryz.pinned (OpenSpec.upto commandAgainSpec)

/-- 'clearancelaw13.ScopeFinds', WHERE WHAT IT READS IS OF BULK AT MOST 1048576: true; the input reads as it did. -/
def scopeFindsUptoRow : OpenClaim := { program := "ytcegiiaeeajfpaagreatdoor", sum := "b4f8dc1d74862997d026288552314057d24e16e9162f120bb58deb8c6e0a7c9a", func := "clearance/clearancelaw13.ScopeFinds", spec := "scopeFinds", unfollowed := true, recurses := true, named := ["math/bits.deBruijn64tab"], apart := false, laid := [("math/bits.deBruijn64tab", laid_math_bits_deBruijn64tab)], narrowed := true }
def ScopeFindsUptoSaid : Prop := scopeFindsUptoRow.holds Tryz.pinned (OpenSpec.upto scopeFindsSpec)

/-- 'clearancelaw13.ScopeFaults', WHERE WHAT IT READS IS OF BULK AT MOST 1048576: true; the input reads as it did. -/
def scopeFaultsUptoRow : OpenClaim := { program := "ytcegiiaeeajfpaagreatdoor", sum := "b4f8dc1d74862997d026288552314057d24e16e9162f120bb58deb8c6e0a7c9a", func := "clearance/clearancelaw13.ScopeFaults", spec := "scopeFaults", unfollowed := true, recurses := true, named := ["math/bits.deBruijn64tab"], loops := true, apart := false, laid := [("math/bits.deBruijn64tab", laid_math_bits_deBruijn64tab)], narrowed := true }
def ScopeFaultsUptoSaid : Prop := scopeFaultsUptoRow.holds Tryz.pinned (OpenSpec.upto scopeFaultsSpec)

/-- 'clearancelaw13.ScopeAdds', WHERE WHAT IT READS IS OF BULK AT MOST 1048576: true; the input reads as it did. -/
def scopeAddsUptoRow : OpenClaim := { program := "ytcegiiaeeajfpaagreatdoor", sum := "b4f8dc1d74862997d026288552314057d24e16e9162f120bb58deb8c6e0a7c9a", func := "clearance/clearancelaw13.ScopeAdds", spec := "scopeAdds", unfollowed := true, recurses := true, named := ["math/bits.deBruijn64tab"], loops := true, apart := false, laid := [("math/bits.deBruijn64tab", laid_math_bits_deBruijn64tab)], narrowed := true }
def ScopeAddsUptoSaid : Prop := scopeAddsUptoRow.holds Tryz.pinned (OpenSpec.upto scopeAddsSpec)

/-- 'clearancelaw13.ScopeKeeps', WHERE WHAT IT READS IS OF BULK AT MOST 1048576: true; the input reads as it did. -/
def scopeKeepsUptoRow : OpenClaim := { program := "ytcegiiaeeajfpaagreatdoor", sum := "b4f8dc1d74862997d026288552314057d24e16e9162f120bb58deb8c6e0a7c9a", func := "clearance/clearancelaw13.ScopeKeeps", spec := "scopeKeeps", unfollowed := true, recurses := true, named := ["math/bits.deBruijn64tab"], loops := true, apart := false, laid := [("math/bits.deBruijn64tab", laid_math_bits_deBruijn64tab)], narrowed := true }
def ScopeKeepsUptoSaid : Prop := scopeKeepsUptoRow.holds Tryz.pinned (OpenSpec.upto scopeKeepsSpec)

/-- 'clearancelaw13.ScopeLives', WHERE WHAT IT READS IS OF BULK AT MOST 1048576: true; the input reads as it did. -/
def scopeLivesUptoRow : OpenClaim := { program := "ytcegiiaeeajfpaagreatdoor", sum := "b4f8dc1d74862997d026288552314057d24e16e9162f120bb58deb8c6e0a7c9a", func := "clearance/clearancelaw13.ScopeLives", spec := "scopeLives", unfollowed := true, recurses := true, named := ["math/bits.deBruijn64tab"], loops := true, apart := false, laid := [("math/bits.deBruijn64tab", laid_math_bits_deBruijn64tab)], narrowed := true }
def ScopeLivesUptoSaid : Prop := scopeLivesUptoRow.holds Tryz.pinned (OpenSpec.upto scopeLivesSpec)

end Rows
end Go.Proofs.YtcegiiaeeajfpaaGreatDoor
