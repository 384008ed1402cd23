/- Texts that all the claims need. Conditions: those that each states. -/
import Derived.BigRegion
import Derived.Ground.SlgnProg
import Derived.IntWalk
import Derived.Laws.AppendOwnNone
import Derived.Laws.OwnMore
import Derived.RegionTactic
import Derived.Shelf.SlicesE.Compact
import Derived.Shelf.Small.Bits
import Derived.Shelf.Strconv.Itoa0
import Derived.Shelf.Strings.Builder1
import Derived.Shelf.Strings.Builder2
import Derived.Shelf.Strings.BuilderF
import Derived.Shelf.Strings.BuilderK
import Derived.Shelf.Strings.OnBuilder
import Derived.Sort.Row
import Derived.Test.YtnfndapgcpdcpaaGreatDoorFa3
set_option linter.unusedSimpArgs false
set_option linter.unusedVariables false
set_option maxRecDepth 100000
set_option maxHeartbeats 40000000
namespace Go.Proofs.YtnfndapgcpdcpaaGreatDoor
section
open Go.RowKit RM
end
section
open Go.RowKit RM
end
section
open Go.RowKit RM
section
variable {o : Oper} {a : Act} {S : World → Prop}
end
end
section
open Go.RowKit RM
end
section
open Go.RowKit RM
section
variable {o : Oper} {a : Act} {S : World → Prop}
end
end
section
open Go.RowKit RM
end
section
open Go.RowKit RM
theorem antiB_no {p i j : Nat} {S : Nat → Nat → Bool} (hi : i < p) (hj : j < i) (h1 : S i j = true) (h2 : S j i = true) : antiB p S = false := by
 rw [Bool.eq_false_iff]
 intro h
 unfold antiB at h
 rw [List.all_eq_true] at h
 have h3 := h i (List.mem_range.2 hi)
 unfold fstB at h3
 rw [List.all_eq_true] at h3
 have h4 := h3 j (List.mem_range.2 hj)
 rw [h1, h2] at h4
 cases h4
end
end Go.Proofs.YtnfndapgcpdcpaaGreatDoor
