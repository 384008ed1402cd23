/- Texts that all the claims need. Conditions: those that each states. -/
import Derived.Great.BuildSlice
import Derived.Test.YtmobcncgfbfmcaaGreatDoorCa12
set_option linter.unusedSimpArgs false
set_option linter.unusedVariables false
set_option maxRecDepth 100000
set_option maxHeartbeats 40000000
namespace Go.Proofs.YtmobcncgfbfmcaaGreatDoor
section
namespace TM
theorem QaV : ∀ l : List Nd, sms l l = true := by
 refine ind (by rw [sms]) fun k p s A c ws B d ks r h1 h2 => ?_
 rw [sms, h2]
 have hw : ∀ ws : List Wd, eqL sw ws ws = true := fun ws => by
  induction ws with
  | nil => rfl
  | cons x r ih => rw [eqL, ih]; simp [sw]
 show (decide (k = k) && (decide (s = s) && (eqL sw ws ws && sms ks ks))) && true = true
 rw [hw, h1]; simp
theorem QaW (x : Nd) : sm x x = true := by
 have h := QaV [x]
 rw [Q2Q, eqL, eqL, Bool.and_true] at h
 exact h
end TM
open Go.RowKit LX TR TM
end
end Go.Proofs.YtmobcncgfbfmcaaGreatDoor
