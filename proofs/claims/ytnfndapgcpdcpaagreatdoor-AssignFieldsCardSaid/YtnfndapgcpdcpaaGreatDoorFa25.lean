/- Texts that all the claims need. Conditions: those that each states. -/

import Derived.Test.YtnfndapgcpdcpaaGreatDoorFa23
set_option linter.unusedSimpArgs false
set_option linter.unusedVariables false
set_option maxRecDepth 100000
set_option maxHeartbeats 40000000
namespace Go.Proofs.YtnfndapgcpdcpaaGreatDoor
section
namespace TM
theorem lst_text10 (z : Nd) : LX.lst (text10 z) = tx z := by simp [text10, LX.lst]
end TM
open Go.RowKit LX TR TM
end
end Go.Proofs.YtnfndapgcpdcpaaGreatDoor
