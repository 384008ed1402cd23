/-
  No cell of these rows narrows 'for every input' (looked for: loops, veiled, ifaces, maps, wideKeys, modest, calm, conditions, laid).
  DERIVED. THE GIVEN ROWS OF THIS SEAT. 3 by the template 'for every input the law returns true; each argument reads behind the call as it read before'; 0 by the template 'total and deterministic' (their statements: YtojbmahapomoeaaTotals.lean).
  GIVEN WITH THE SEED: the statements are not yours to turn. If you find one false, say at which input.
  Laid BY PROGRAM, IN A SANDBOX (cutbox-rows.mjs): the forced cells as the released guide's own fill.sh prints them over the translation af7f7f0a65f73b73… (all of the seat's roots in one cut). By AI agents, Wed Nov 11 2026. No macro, syntax, notation, axiom, sorry.
-/
import Derived.Test.YtojbmahapomoeaaChecked
import GoSem.Claim
import GoSem.ClaimJoined
import GoSem.ClaimMapViews
import Derived.JoinedTies
import Derived.KernelRfl
namespace Go.Proofs.Ytojbmahapomoeaa
/- THE CELL 'sum', in the pinned program and in every row, IS THE sha256 OF THE DUMP (.gsa) THAT YtojbmahapomoeaaProg.lean LOADS. Nothing in Lean hashes anything: it is a label: what it is worth is what the hold of that sum in a sandbox is worth. -/
noncomputable def Try.pinned : Pinned := { name := "ytojbmahapomoeaa", sum := "af7f7f0a65f73b73cd45184eb67d143fe77d20aa7702d05b593a0a3c87692b8a", checked := Try.checked }
namespace Rows
def none {H : Type} : Left H := { results := [], args := [] }

/-- 'clearancelaw04.RungWord': WHATEVER THE INPUT: true; the input reads as it did. -/
def rungWordSpec : ChangeSpec := { name := "rungWord", fn := fun _ => fun
  | [d1, d2, d3] => { results := [.lit (.bool true)], args := [d1, d2, d3] }
  | _ => none }
def rungWordRow : OpenClaim := { program := "ytojbmahapomoeaa", sum := "af7f7f0a65f73b73cd45184eb67d143fe77d20aa7702d05b593a0a3c87692b8a", func := "clearance/clearancelaw04.RungWord", spec := "rungWord", apart := false }
def RungWordSaid : Prop := rungWordRow.holds Try.pinned (OpenSpec.ofChange rungWordSpec)

/-- ITS FALSE NEIGHBOUR: 'it returns false'. Refute it at one input. -/
def rungWordWrong : ChangeSpec := { name := "rungWord", fn := fun _ => fun
  | [d1, d2, d3] => { results := [.lit (.bool false)], args := [d1, d2, d3] }
  | _ => none }
def RungWordWrongFalsely : Prop := rungWordRow.holds Try.pinned (OpenSpec.ofChange rungWordWrong)

/-- 'clearancelaw04.RungBack': WHATEVER THE INPUT: true; the input reads as it did. -/
def rungBackSpec : ChangeSpec := { name := "rungBack", fn := fun _ => fun
  | [d1, d2] => { results := [.lit (.bool true)], args := [d1, d2] }
  | _ => none }
def rungBackRow : OpenClaim := { program := "ytojbmahapomoeaa", sum := "af7f7f0a65f73b73cd45184eb67d143fe77d20aa7702d05b593a0a3c87692b8a", func := "clearance/clearancelaw04.RungBack", spec := "rungBack", apart := false }
def RungBackSaid : Prop := rungBackRow.holds Try.pinned (OpenSpec.ofChange rungBackSpec)

/-- ITS FALSE NEIGHBOUR: 'it returns false'. Refute it at one input. -/
def rungBackWrong : ChangeSpec := { name := "rungBack", fn := fun _ => fun
  | [d1, d2] => { results := [.lit (.bool false)], args := [d1, d2] }
  | _ => none }
def RungBackWrongFalsely : Prop := rungBackRow.holds Try.pinned (OpenSpec.ofChange rungBackWrong)

/-- 'clearancelaw04.RungOrder': WHATEVER THE INPUT: true; the input reads as it did. -/
def rungOrderSpec : ChangeSpec := { name := "rungOrder", fn := fun _ => fun
  | [d1, d2, d3] => { results := [.lit (.bool true)], args := [d1, d2, d3] }
  | _ => none }
def rungOrderRow : OpenClaim := { program := "ytojbmahapomoeaa", sum := "af7f7f0a65f73b73cd45184eb67d143fe77d20aa7702d05b593a0a3c87692b8a", func := "clearance/clearancelaw04.RungOrder", spec := "rungOrder", apart := false }
def RungOrderSaid : Prop := rungOrderRow.holds Try.pinned (OpenSpec.ofChange rungOrderSpec)

/-- ITS FALSE NEIGHBOUR: 'it returns false'. Refute it at one input. -/
def rungOrderWrong : ChangeSpec := { name := "rungOrder", fn := fun _ => fun
  | [d1, d2, d3] => { results := [.lit (.bool false)], args := [d1, d2, d3] }
  | _ => none }
def RungOrderWrongFalsely : Prop := rungOrderRow.holds Try.pinned (OpenSpec.ofChange rungOrderWrong)

/- THE SECOND FORM. 'bulk': how many values and letters a reading holds, each counted each time it is reached (what is shared counts as often as it is met; a slice's spare places count too). A statement '..UptoSaid' is the law's where the arguments, and the package variables that the reading takes, are together of bulk at most 1048576: NARROWER than '..Said'. Prove '..Said' where nothing that the law and all that it calls make is longer than what came in: it says more and counts as full. Else prove '..UptoSaid'. A law counts once. -/
mutual
def uptoBulk {H : Type} : DataW H → Nat
  | .lit (.string bytes) => bytes.length + 1
  | .lit _ => 1
  | .nil => 1
  | .ptr d => uptoBulk d + 1
  | .slice elems spare => uptoBulkAll elems + uptoBulkAll spare + 1
  | .agg parts => uptoBulkAll parts + 1
  | .iface _ d => uptoBulk d + 1
  | .map entries => uptoBulkEntries entries + 1
  | .held _ => 1
def uptoBulkAll {H : Type} : List (DataW H) → Nat
  | [] => 0
  | d :: r => uptoBulk d + uptoBulkAll r
def uptoBulkEntries {H : Type} : List (Lit × DataW H) → Nat
  | [] => 0
  | x :: r => uptoBulkEntry x + uptoBulkEntries r
def uptoBulkEntry {H : Type} : Lit × DataW H → Nat
  | (.string bytes, d) => bytes.length + uptoBulk d + 1
  | (_, d) => uptoBulk d + 1
 end
def uptoSmall : (H : Type) → List (DataW H) → Bool := fun _ ds => decide (uptoBulkAll ds ≤ 1048576)
def OpenSpec.upto (s : _root_.Go.ChangeSpec) : _root_.Go.OpenSpec := { _root_.Go.OpenSpec.ofChange s with cond := some uptoSmall }

/-- 'clearancelaw04.RungWord', WHERE WHAT IT READS IS OF BULK AT MOST 1048576: true; the input reads as it did. -/
def rungWordUptoRow : OpenClaim := { program := "ytojbmahapomoeaa", sum := "af7f7f0a65f73b73cd45184eb67d143fe77d20aa7702d05b593a0a3c87692b8a", func := "clearance/clearancelaw04.RungWord", spec := "rungWord", apart := false, narrowed := true }
def RungWordUptoSaid : Prop := rungWordUptoRow.holds Try.pinned (OpenSpec.upto rungWordSpec)

/-- 'clearancelaw04.RungBack', WHERE WHAT IT READS IS OF BULK AT MOST 1048576: true; the input reads as it did. -/
def rungBackUptoRow : OpenClaim := { program := "ytojbmahapomoeaa", sum := "af7f7f0a65f73b73cd45184eb67d143fe77d20aa7702d05b593a0a3c87692b8a", func := "clearance/clearancelaw04.RungBack", spec := "rungBack", apart := false, narrowed := true }
def RungBackUptoSaid : Prop := rungBackUptoRow.holds Try.pinned (OpenSpec.upto rungBackSpec)

/-- 'clearancelaw04.RungOrder', WHERE WHAT IT READS IS OF BULK AT MOST 1048576: true; the input reads as it did. -/
def rungOrderUptoRow : OpenClaim := { program := "ytojbmahapomoeaa", sum := "af7f7f0a65f73b73cd45184eb67d143fe77d20aa7702d05b593a0a3c87692b8a", func := "clearance/clearancelaw04.RungOrder", spec := "rungOrder", apart := false, narrowed := true }
def RungOrderUptoSaid : Prop := rungOrderUptoRow.holds Try.pinned (OpenSpec.upto rungOrderSpec)

end Rows
end Go.Proofs.Ytojbmahapomoeaa
