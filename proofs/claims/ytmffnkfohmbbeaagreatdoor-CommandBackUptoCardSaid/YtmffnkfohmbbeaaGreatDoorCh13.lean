/- Texts that all the claims need. Conditions: those that each states. -/
import Derived.Lib.SlBytesRow
import Derived.Test.YtmffnkfohmbbeaaGreatDoorCh7
set_option linter.unusedSimpArgs false
set_option linter.unusedVariables false
set_option maxRecDepth 100000
set_option maxHeartbeats 40000000
namespace Go.Proofs.YtmffnkfohmbbeaaGreatDoor
section
open Go.RowKit LX TR
theorem flat_length : ∀ l : List Tr, (flat l).length ≤ 2 * (nodes l).length := by
 refine ind (by simp [flat, evs]) fun t A c ks e r h1 h2 => ?_
 rw [flat_cons, nodes]
 by_cases h : cl (Tr.mk t A c ks e).t.k = 0
 ·rw [if_pos h]
  simp only [zA8, zA7]; omega
 ·rw [if_neg h]
  have h1' : (flat (Tr.mk t A c ks e).ks).length ≤ 2 * (nodes ks).length := h1
  simp only [zA8, zA7]; omega
end
section
open Go.RowKit LX TR
end
end Go.Proofs.YtmffnkfohmbbeaaGreatDoor
