/- Texts that all the claims need. Conditions: those that each states. -/
import Derived.Lib.AppendStr
import Derived.Lib.OthersKept
import Derived.WalkMore
import Derived.Test.YtnfndapgcpdcpaaGreatDoorFa19
set_option linter.unusedSimpArgs false
set_option linter.unusedVariables false
set_option maxRecDepth 100000
set_option maxHeartbeats 40000000
namespace Go.Proofs.YtnfndapgcpdcpaaGreatDoor
section
open Go.RowKit LX
end
section
open Go.RowKit LX
namespace LX
end LX
end
section
open Go.RowKit LX
theorem str_cells (x : List UInt8) (s : ByteArray) : Lib.byteCells x ++ Lib.strCells s = Lib.byteCells (x ++ lst s) := by rw [Lib.strCells_eq, Lib.byteCells_append]; rfl
theorem byte_cells (x : List UInt8) (c : UInt8) : Lib.byteCells x ++ [.int .u8 (c.toNat : Int)] = Lib.byteCells (x ++ [c]) := by rw [Lib.byteCells_append]; rfl
end
section
open Go.RowKit LX
end
section
open Go.RowKit LX
end
end Go.Proofs.YtnfndapgcpdcpaaGreatDoor
