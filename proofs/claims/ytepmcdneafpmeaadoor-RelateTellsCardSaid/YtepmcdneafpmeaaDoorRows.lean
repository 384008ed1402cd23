/-
  NARROWER THAN 'FOR EVERY INPUT', by the rows' own cells (each row's printed sentence says how): RelateOf: laid · RelateTells: laid · RelateReaches: laid · RelateLeast: laid · RelateImages: laid · RelateCovers: laid.
  DERIVED. THE GIVEN ROWS OF THIS SEAT. 6 by the template 'for every input the law returns true; each argument reads behind the call as it read before'; 0 by the template 'total and deterministic' (their statements: YtepmcdneafpmeaaDoorTotals.lean).
  GIVEN WITH THE SEED: the statements are not yours to turn. If you find one false, say at which input.
  Laid BY PROGRAM, IN A SANDBOX (cutbox-rows.mjs): the forced cells as the released guide's own fill.sh prints them over the translation a87e6378fdb0c6a5… (all of the seat's roots in one cut). By AI agents, Wed Nov 11 2026. No macro, syntax, notation, axiom, sorry.
-/
import Derived.Test.YtepmcdneafpmeaaDoorChecked
import GoSem.Claim
import GoSem.ClaimJoined
import GoSem.ClaimMapViews
import Derived.JoinedTies
import Derived.KernelRfl
namespace Go.Proofs.YtepmcdneafpmeaaDoor
/- THE CELL 'sum', in the pinned program and in every row, IS THE sha256 OF THE DUMP (.gsa) THAT YtepmcdneafpmeaaDoorProg.lean LOADS. Nothing in Lean hashes anything: it is a label: what it is worth is what the hold of that sum in a sandbox is worth. -/
noncomputable def Tryd.pinned : Pinned := { name := "ytepmcdneafpmeaadoor", sum := "a87e6378fdb0c6a5cf13c395ea6c470c63ef94c0dbd103abcaae22ae09f65c88", checked := Tryd.checked }
namespace Rows
def none {H : Type} : Left H := { results := [], args := [] }

/- WHAT THE LISTED PACKAGE-LEVEL VARIABLES READ AS WHEN THE CALL BEGINS. Each datum BY PROGRAM (the guide's laid-datum.mjs) off the statement by which the dump's own 'gosem.cut.vars' lays the variable. In a bare row this is a premise. The card (YtepmcdneafpmeaaDoorCards.lean) ties it to the program's text. -/
def laid_math_bits_deBruijn64tab {H : Type} : DataW H := .agg [.lit (.int .u8 0), .lit (.int .u8 1), .lit (.int .u8 56), .lit (.int .u8 2), .lit (.int .u8 57), .lit (.int .u8 49), .lit (.int .u8 28), .lit (.int .u8 3), .lit (.int .u8 61), .lit (.int .u8 58), .lit (.int .u8 42), .lit (.int .u8 50), .lit (.int .u8 38), .lit (.int .u8 29), .lit (.int .u8 17), .lit (.int .u8 4), .lit (.int .u8 62), .lit (.int .u8 47), .lit (.int .u8 59), .lit (.int .u8 36), .lit (.int .u8 45), .lit (.int .u8 43), .lit (.int .u8 51), .lit (.int .u8 22), .lit (.int .u8 53), .lit (.int .u8 39), .lit (.int .u8 33), .lit (.int .u8 30), .lit (.int .u8 24), .lit (.int .u8 18), .lit (.int .u8 12), .lit (.int .u8 5), .lit (.int .u8 63), .lit (.int .u8 55), .lit (.int .u8 48), .lit (.int .u8 27), .lit (.int .u8 60), .lit (.int .u8 41), .lit (.int .u8 37), .lit (.int .u8 16), .lit (.int .u8 46), .lit (.int .u8 35), .lit (.int .u8 44), .lit (.int .u8 21), .lit (.int .u8 52), .lit (.int .u8 32), .lit (.int .u8 23), .lit (.int .u8 11), .lit (.int .u8 54), .lit (.int .u8 26), .lit (.int .u8 40), .lit (.int .u8 15), .lit (.int .u8 34), .lit (.int .u8 20), .lit (.int .u8 31), .lit (.int .u8 10), .lit (.int .u8 25), .lit (.int .u8 14), .lit (.int .u8 19), .lit (.int .u8 9), .lit (.int .u8 13), .lit (.int .u8 8), .lit (.int .u8 7), .lit (.int .u8 6)]

/-- 'clearancelaw03.RelateOf': WHATEVER THE INPUT: true; the input reads as it did. -/
def relateOfSpec : ChangeSpec := { name := "relateOf", fn := fun _ => fun
  | [d1, d2, d3] => { results := [.lit (.bool true)], args := [d1, d2, d3] }
  | _ => none }
def relateOfRow : OpenClaim := { program := "ytepmcdneafpmeaadoor", sum := "a87e6378fdb0c6a5cf13c395ea6c470c63ef94c0dbd103abcaae22ae09f65c88", func := "clearance/clearancelaw03.RelateOf", spec := "relateOf", unfollowed := true, recurses := true, named := ["math/bits.deBruijn64tab"], apart := false, laid := [("math/bits.deBruijn64tab", laid_math_bits_deBruijn64tab)] }
def RelateOfSaid : Prop := relateOfRow.holds Tryd.pinned (OpenSpec.ofChange relateOfSpec)

/-- ITS FALSE NEIGHBOUR: 'it returns false'. Refute it at one input. -/
def relateOfWrong : ChangeSpec := { name := "relateOf", fn := fun _ => fun
  | [d1, d2, d3] => { results := [.lit (.bool false)], args := [d1, d2, d3] }
  | _ => none }
def RelateOfWrongFalsely : Prop := relateOfRow.holds Tryd.pinned (OpenSpec.ofChange relateOfWrong)

/-- 'clearancelaw03.RelateTells': WHATEVER THE INPUT: true; the input reads as it did. -/
def relateTellsSpec : ChangeSpec := { name := "relateTells", fn := fun _ => fun
  | [d1, d2, d3] => { results := [.lit (.bool true)], args := [d1, d2, d3] }
  | _ => none }
def relateTellsRow : OpenClaim := { program := "ytepmcdneafpmeaadoor", sum := "a87e6378fdb0c6a5cf13c395ea6c470c63ef94c0dbd103abcaae22ae09f65c88", func := "clearance/clearancelaw03.RelateTells", spec := "relateTells", unfollowed := true, recurses := true, named := ["math/bits.deBruijn64tab"], apart := false, laid := [("math/bits.deBruijn64tab", laid_math_bits_deBruijn64tab)] }
def RelateTellsSaid : Prop := relateTellsRow.holds Tryd.pinned (OpenSpec.ofChange relateTellsSpec)

/-- ITS FALSE NEIGHBOUR: 'it returns false'. Refute it at one input. -/
def relateTellsWrong : ChangeSpec := { name := "relateTells", fn := fun _ => fun
  | [d1, d2, d3] => { results := [.lit (.bool false)], args := [d1, d2, d3] }
  | _ => none }
def RelateTellsWrongFalsely : Prop := relateTellsRow.holds Tryd.pinned (OpenSpec.ofChange relateTellsWrong)

/-- 'clearancelaw03.RelateReaches': WHATEVER THE INPUT: true; the input reads as it did. -/
def relateReachesSpec : ChangeSpec := { name := "relateReaches", fn := fun _ => fun
  | [d1, d2] => { results := [.lit (.bool true)], args := [d1, d2] }
  | _ => none }
def relateReachesRow : OpenClaim := { program := "ytepmcdneafpmeaadoor", sum := "a87e6378fdb0c6a5cf13c395ea6c470c63ef94c0dbd103abcaae22ae09f65c88", func := "clearance/clearancelaw03.RelateReaches", spec := "relateReaches", unfollowed := true, recurses := true, named := ["math/bits.deBruijn64tab"], apart := false, laid := [("math/bits.deBruijn64tab", laid_math_bits_deBruijn64tab)] }
def RelateReachesSaid : Prop := relateReachesRow.holds Tryd.pinned (OpenSpec.ofChange relateReachesSpec)

/-- ITS FALSE NEIGHBOUR: 'it returns false'. Refute it at one input. -/
def relateReachesWrong : ChangeSpec := { name := "relateReaches", fn := fun _ => fun
  | [d1, d2] => { results := [.lit (.bool false)], args := [d1, d2] }
  | _ => none }
def RelateReachesWrongFalsely : Prop := relateReachesRow.holds Tryd.pinned (OpenSpec.ofChange relateReachesWrong)

/-- 'clearancelaw03.RelateLeast': WHATEVER THE INPUT: true; the input reads as it did. -/
def relateLeastSpec : ChangeSpec := { name := "relateLeast", fn := fun _ => fun
  | [d1, d2, d3] => { results := [.lit (.bool true)], args := [d1, d2, d3] }
  | _ => none }
def relateLeastRow : OpenClaim := { program := "ytepmcdneafpmeaadoor", sum := "a87e6378fdb0c6a5cf13c395ea6c470c63ef94c0dbd103abcaae22ae09f65c88", func := "clearance/clearancelaw03.RelateLeast", spec := "relateLeast", unfollowed := true, recurses := true, named := ["math/bits.deBruijn64tab"], apart := false, laid := [("math/bits.deBruijn64tab", laid_math_bits_deBruijn64tab)] }
def RelateLeastSaid : Prop := relateLeastRow.holds Tryd.pinned (OpenSpec.ofChange relateLeastSpec)

/-- ITS FALSE NEIGHBOUR: 'it returns false'. Refute it at one input. -/
def relateLeastWrong : ChangeSpec := { name := "relateLeast", fn := fun _ => fun
  | [d1, d2, d3] => { results := [.lit (.bool false)], args := [d1, d2, d3] }
  | _ => none }
def RelateLeastWrongFalsely : Prop := relateLeastRow.holds Tryd.pinned (OpenSpec.ofChange relateLeastWrong)

/-- 'clearancelaw03.RelateImages': WHATEVER THE INPUT: true; the input reads as it did. -/
def relateImagesSpec : ChangeSpec := { name := "relateImages", fn := fun _ => fun
  | [d1, d2, d3] => { results := [.lit (.bool true)], args := [d1, d2, d3] }
  | _ => none }
def relateImagesRow : OpenClaim := { program := "ytepmcdneafpmeaadoor", sum := "a87e6378fdb0c6a5cf13c395ea6c470c63ef94c0dbd103abcaae22ae09f65c88", func := "clearance/clearancelaw03.RelateImages", spec := "relateImages", unfollowed := true, recurses := true, named := ["math/bits.deBruijn64tab"], apart := false, laid := [("math/bits.deBruijn64tab", laid_math_bits_deBruijn64tab)] }
def RelateImagesSaid : Prop := relateImagesRow.holds Tryd.pinned (OpenSpec.ofChange relateImagesSpec)

/-- ITS FALSE NEIGHBOUR: 'it returns false'. Refute it at one input. -/
def relateImagesWrong : ChangeSpec := { name := "relateImages", fn := fun _ => fun
  | [d1, d2, d3] => { results := [.lit (.bool false)], args := [d1, d2, d3] }
  | _ => none }
def RelateImagesWrongFalsely : Prop := relateImagesRow.holds Tryd.pinned (OpenSpec.ofChange relateImagesWrong)

/-- 'clearancelaw03.RelateCovers': WHATEVER THE INPUT: true; the input reads as it did. -/
def relateCoversSpec : ChangeSpec := { name := "relateCovers", fn := fun _ => fun
  | [d] => { results := [.lit (.bool true)], args := [d] }
  | _ => none }
def relateCoversRow : OpenClaim := { program := "ytepmcdneafpmeaadoor", sum := "a87e6378fdb0c6a5cf13c395ea6c470c63ef94c0dbd103abcaae22ae09f65c88", func := "clearance/clearancelaw03.RelateCovers", spec := "relateCovers", unfollowed := true, recurses := true, named := ["math/bits.deBruijn64tab"], apart := false, laid := [("math/bits.deBruijn64tab", laid_math_bits_deBruijn64tab)] }
def RelateCoversSaid : Prop := relateCoversRow.holds Tryd.pinned (OpenSpec.ofChange relateCoversSpec)

/-- ITS FALSE NEIGHBOUR: 'it returns false'. Refute it at one input. -/
def relateCoversWrong : ChangeSpec := { name := "relateCovers", fn := fun _ => fun
  | [d] => { results := [.lit (.bool false)], args := [d] }
  | _ => none }
def RelateCoversWrongFalsely : Prop := relateCoversRow.holds Tryd.pinned (OpenSpec.ofChange relateCoversWrong)

/- THE SECOND FORM. 'bulk': how many values and letters a reading holds, each counted each time it is reached (what is shared counts as often as it is met; a slice's spare places count too). A statement '..UptoSaid' is the law's where the arguments, and the package variables that the reading takes, are together of bulk at most 1048576: NARROWER than '..Said'. Prove '..Said' where nothing that the law and all that it calls make is longer than what came in: it says more and counts as full. Else prove '..UptoSaid'. A law counts once. -/
mutual
def uptoBulk {H : Type} : DataW H → Nat
  | .lit (.string bytes) => bytes.length + 1
  | .lit _ => 1
  | .nil => 1
  | .ptr d => uptoBulk d + 1
  | .slice elems spare => uptoBulkAll elems + uptoBulkAll spare + 1
  | .agg parts => uptoBulkAll parts + 1
  | .iface _ d => uptoBulk d + 1
  | .map entries => uptoBulkEntries entries + 1
  | .held _ => 1
def uptoBulkAll {H : Type} : List (DataW H) → Nat
  | [] => 0
  | d :: r => uptoBulk d + uptoBulkAll r
def uptoBulkEntries {H : Type} : List (Lit × DataW H) → Nat
  | [] => 0
  | x :: r => uptoBulkEntry x + uptoBulkEntries r
def uptoBulkEntry {H : Type} : Lit × DataW H → Nat
  | (.string bytes, d) => bytes.length + uptoBulk d + 1
  | (_, d) => uptoBulk d + 1
 end
def uptoSmall : (H : Type) → List (DataW H) → Bool := fun _ ds => decide (uptoBulkAll ds ≤ 1048576)
def OpenSpec.upto (s : _root_.Go.ChangeSpec) : _root_.Go.OpenSpec := { _root_.Go.OpenSpec.ofChange s with cond := some uptoSmall }

/-- 'clearancelaw03.RelateOf', WHERE WHAT IT READS IS OF BULK AT MOST 1048576: true; the input reads as it did. -/
def relateOfUptoRow : OpenClaim := { program := "ytepmcdneafpmeaadoor", sum := "a87e6378fdb0c6a5cf13c395ea6c470c63ef94c0dbd103abcaae22ae09f65c88", func := "clearance/clearancelaw03.RelateOf", spec := "relateOf", unfollowed := true, recurses := true, named := ["math/bits.deBruijn64tab"], apart := false, laid := [("math/bits.deBruijn64tab", laid_math_bits_deBruijn64tab)], narrowed := true }
def RelateOfUptoSaid : Prop := relateOfUptoRow.holds Tryd.pinned (OpenSpec.upto relateOfSpec)

/-- 'clearancelaw03.RelateTells', WHERE WHAT IT READS IS OF BULK AT MOST 1048576: true; the input reads as it did. -/
def relateTellsUptoRow : OpenClaim := { program := "ytepmcdneafpmeaadoor", sum := "a87e6378fdb0c6a5cf13c395ea6c470c63ef94c0dbd103abcaae22ae09f65c88", func := "clearance/clearancelaw03.RelateTells", spec := "relateTells", unfollowed := true, recurses := true, named := ["math/bits.deBruijn64tab"], apart := false, laid := [("math/bits.deBruijn64tab", laid_math_bits_deBruijn64tab)], narrowed := true }
def RelateTellsUptoSaid : Prop := relateTellsUptoRow.holds Tryd.pinned (OpenSpec.upto relateTellsSpec)

/-- 'clearancelaw03.RelateReaches', WHERE WHAT IT READS IS OF BULK AT MOST 1048576: true; the input reads as it did. -/
def relateReachesUptoRow : OpenClaim := { program := "ytepmcdneafpmeaadoor", sum := "a87e6378fdb0c6a5cf13c395ea6c470c63ef94c0dbd103abcaae22ae09f65c88", func := "clearance/clearancelaw03.RelateReaches", spec := "relateReaches", unfollowed := true, recurses := true, named := ["math/bits.deBruijn64tab"], apart := false, laid := [("math/bits.deBruijn64tab", laid_math_bits_deBruijn64tab)], narrowed := true }
def RelateReachesUptoSaid : Prop := relateReachesUptoRow.holds Tryd.pinned (OpenSpec.upto relateReachesSpec)

/-- 'clearancelaw03.RelateLeast', WHERE WHAT IT READS IS OF BULK AT MOST 1048576: true; the input reads as it did. -/
def relateLeastUptoRow : OpenClaim := { program := "ytepmcdneafpmeaadoor", sum := "a87e6378fdb0c6a5cf13c395ea6c470c63ef94c0dbd103abcaae22ae09f65c88", func := "clearance/clearancelaw03.RelateLeast", spec := "relateLeast", unfollowed := true, recurses := true, named := ["math/bits.deBruijn64tab"], apart := false, laid := [("math/bits.deBruijn64tab", laid_math_bits_deBruijn64tab)], narrowed := true }
def RelateLeastUptoSaid : Prop := relateLeastUptoRow.holds Tryd.pinned (OpenSpec.upto relateLeastSpec)

/-- 'clearancelaw03.RelateImages', WHERE WHAT IT READS IS OF BULK AT MOST 1048576: true; the input reads as it did. -/
def relateImagesUptoRow : OpenClaim := { program := "ytepmcdneafpmeaadoor", sum := "a87e6378fdb0c6a5cf13c395ea6c470c63ef94c0dbd103abcaae22ae09f65c88", func := "clearance/clearancelaw03.RelateImages", spec := "relateImages", unfollowed := true, recurses := true, named := ["math/bits.deBruijn64tab"], apart := false, laid := [("math/bits.deBruijn64tab", laid_math_bits_deBruijn64tab)], narrowed := true }
def RelateImagesUptoSaid : Prop := relateImagesUptoRow.holds Tryd.pinned (OpenSpec.upto relateImagesSpec)

/-- 'clearancelaw03.RelateCovers', WHERE WHAT IT READS IS OF BULK AT MOST 1048576: true; the input reads as it did. -/
def relateCoversUptoRow : OpenClaim := { program := "ytepmcdneafpmeaadoor", sum := "a87e6378fdb0c6a5cf13c395ea6c470c63ef94c0dbd103abcaae22ae09f65c88", func := "clearance/clearancelaw03.RelateCovers", spec := "relateCovers", unfollowed := true, recurses := true, named := ["math/bits.deBruijn64tab"], apart := false, laid := [("math/bits.deBruijn64tab", laid_math_bits_deBruijn64tab)], narrowed := true }
def RelateCoversUptoSaid : Prop := relateCoversUptoRow.holds Tryd.pinned (OpenSpec.upto relateCoversSpec)

end Rows
end Go.Proofs.YtepmcdneafpmeaaDoor
