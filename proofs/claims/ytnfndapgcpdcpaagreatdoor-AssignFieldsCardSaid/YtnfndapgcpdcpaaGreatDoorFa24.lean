/- Texts that all the claims need. Conditions: those that each states. -/

import Derived.Test.YtnfndapgcpdcpaaGreatDoorFa23
set_option linter.unusedSimpArgs false
set_option linter.unusedVariables false
set_option maxRecDepth 100000
set_option maxHeartbeats 40000000
namespace Go.Proofs.YtnfndapgcpdcpaaGreatDoor
section
namespace SP
open TM
def gv (x : Except Int Nat) : Array Value := match x with
 | .ok w => #[.int .u64 (w : Int), .bool false, .int .i64 0]
 | .error p => #[.int .u64 0, .bool true, .int .i64 p]
end SP
open Go.RowKit LX TR TM SP
end
section
namespace SP
open TM
def nmdTo (names : List ByteArray) (v i : Nat) : List Wd := ((List.range i).filter fun j : Nat => MM.hasN v (j : Int)).map fun j => ⟨names.getD j ⟨#[]⟩, 0⟩
def nmd (names : List ByteArray) (v : Nat) : List Wd := nmdTo names v names.length
theorem nmd_le (names : List ByteArray) (v i : Nat) : (nmdTo names v i).length ≤ i := by
 unfold nmdTo
 rw [List.length_map]
 have := List.length_filter_le (fun j : Nat => MM.hasN v (j : Int)) (List.range i)
 rw [List.length_range] at this
 exact this
end SP
open Go.RowKit LX TR TM SP
end
section
open Go.RowKit LX TR TM
theorem lst_size (s : ByteArray) {l : List UInt8} (h : lst s = l) : s.size = l.length := by rw [← h, lst_length]
end
section
open Go.RowKit LX TR TM
end
section
open Go.RowKit LX TR TM
end
section
open Go.RowKit LX TR TM
end
section
open Go.RowKit LX TR TM
end
section
open Go.RowKit LX TR TM
end
section
open Go.RowKit LX TR TM
end
section
open Go.RowKit LX TR TM
end
end Go.Proofs.YtnfndapgcpdcpaaGreatDoor
