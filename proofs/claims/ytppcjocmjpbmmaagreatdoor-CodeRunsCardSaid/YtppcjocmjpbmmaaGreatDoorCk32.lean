/- Texts that all the claims need. Conditions: those that each states. -/

import Derived.Test.YtppcjocmjpbmmaaGreatDoorCk27
import Derived.Test.YtppcjocmjpbmmaaGreatDoorCk31
set_option linter.unusedSimpArgs false
set_option linter.unusedVariables false
set_option maxRecDepth 100000
set_option maxHeartbeats 40000000
namespace Go.Proofs.YtppcjocmjpbmmaaGreatDoor
section
open Go.ChangeShapes Go.WideShapes Go.ChangeAt Go.RowKit RM
theorem codeRuns_any (t : Bool) (SA : Option Addr) (sc : Nat) (fs : List Fac) (LA : Option Addr) (lc : Nat) (l : List In) (VA : Option Addr) (vc : Nat) (v : List (List Nat)) (w : World) (hT : Tab w) (hF : Facs w SA fs) (hL : Ls insC w LA l)
 (hV : Sl w w.heap.size VA (escells v)) (hE : ∀ e ∈ v, EW e) :
 Calls Tryz.prog 3 #[.agg (sv t SA fs.length sc), .slice LA l.length lc, .slice VA v.length vc] w fun e w' => e = .returned (.bool true) ∧ Below w.heap.size w w' :=
 codeRuns_pre t SA sc fs LA lc l VA vc v w hT hF hL hV hE fun W h => alive14_any W (hT.below h)
section
variable {H : Type} {enc : TypeId × Value → H} {w w2 : World} {r : Reach} {b0 : Nat}
end
end
end Go.Proofs.YtppcjocmjpbmmaaGreatDoor
