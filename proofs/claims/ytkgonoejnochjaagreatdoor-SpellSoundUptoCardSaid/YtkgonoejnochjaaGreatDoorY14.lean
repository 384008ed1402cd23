/- Texts that all the claims need. Conditions: those that each states. -/
import Derived.Lib.AppendStr
import Derived.Lib.OthersKept
import Derived.WalkMore
import Derived.Test.YtkgonoejnochjaaGreatDoorY12
set_option linter.unusedSimpArgs false
set_option linter.unusedVariables false
set_option maxRecDepth 8000
namespace Go.Proofs.YtkgonoejnochjaaGreatDoor
open Go.RowKit LX
end Go.Proofs.YtkgonoejnochjaaGreatDoor
namespace Go.Proofs.YtkgonoejnochjaaGreatDoor
open Go.RowKit LX
namespace LX
end LX
end Go.Proofs.YtkgonoejnochjaaGreatDoor
namespace Go.Proofs.YtkgonoejnochjaaGreatDoor
open Go.RowKit LX
theorem str_cells (x : List UInt8) (s : ByteArray) : Lib.byteCells x ++ Lib.strCells s = Lib.byteCells (x ++ lst s) := by rw [Lib.strCells_eq, Lib.byteCells_append]; rfl
theorem byte_cells (x : List UInt8) (c : UInt8) : Lib.byteCells x ++ [.int .u8 (c.toNat : Int)] = Lib.byteCells (x ++ [c]) := by rw [Lib.byteCells_append]; rfl
end Go.Proofs.YtkgonoejnochjaaGreatDoor
namespace Go.Proofs.YtkgonoejnochjaaGreatDoor
open Go.RowKit LX
theorem ret_slot_cell {P : Program} {fn : Func} {p q : Tmp} {ty : TypeId} (h : fn.results = #[.tmp p, .cell q ty]) (tmps : Array Value) (w : World) (v : Value) (g : Nat) (t : TypeId) (cs : Array Value) (fr : Nat × Nat) (d : TypeDesc)
 (hv : tmps.getD p undef = v) (hp : tmps.getD q undef = .pointer (some ⟨g, 0, none⟩)) (hg : w.heap[g]? = some (.cells cs t fr))
 (hu : P.underlying ty = some d) (hd : (match d with | .struct _ | .array _ _ => true | _ => false) = true) (hi : (P.info? ty).map (·.size) = some cs.size) :
 (results fn tmps).run P w = .ok (.tuple #[v, .agg cs]) w := by
 have hp' : tmps[q]?.getD undef = .pointer (some ⟨g, 0, none⟩) := by simpa using hp
 have hv' : tmps[p]?.getD undef = v := by simpa using hv
 simp [results, h, hp', hv', asAddr, run_loadVar_row w g t ty cs fr d hg hu hd hi]
theorem fault_info (a b : Value) : (Tryz.prog.info? 36).map (·.size) = some (#[a, b] : Array Value).size := by kernel_rfl
end Go.Proofs.YtkgonoejnochjaaGreatDoor
namespace Go.Proofs.YtkgonoejnochjaaGreatDoor
open Go.RowKit LX
end Go.Proofs.YtkgonoejnochjaaGreatDoor

