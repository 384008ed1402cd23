/- Texts that SpellElemCard, SpellBackCard, SpellSoundCard need. Conditions: those that each states. -/

import Derived.Test.YtkgonoejnochjaaGreatDoorY9
set_option linter.unusedSimpArgs false
set_option linter.unusedVariables false
set_option maxRecDepth 8000
namespace Go.Proofs.YtkgonoejnochjaaGreatDoor
open RM
theorem right_closed {n : Int} {l : List Nat} (h : rightB n l = true) : Closed (pts n) (bt l) := by
 obtain ⟨p, _, _, _, _, hc⟩ := right_has h
 exact (closedB_iff n l).1 hc
def Dcl (p : Nat) (S : Nat → Nat → Bool) (a : Nat) : Prop := ∀ o x q y, o < p → x < p → q < p → y < p → ob a q y = true → S o q = true → S x y = true → ob a o x = true
theorem clW_dcl {p : Nat} {S : Nat → Nat → Bool} (hp : p ≤ 8) (hS : Closed p S) (w : Nat) : Dcl p S (clW p S w) := fun o x q y ho hx hq hy h h1 h2 => by
 rw [clW_iff hp hq hy] at h
 obtain ⟨q2, y2, hq2, hy2, h3, h4, h5⟩ := h
 rw [clW_iff hp ho hx]
 exact ⟨q2, y2, hq2, hy2, h3, hS.2 o q q2 ho hq hq2 h1 h4, hS.2 x y y2 hx hy hy2 h2 h5⟩
theorem clW_has {p : Nat} {S : Nat → Nat → Bool} {w o x : Nat} (hp : p ≤ 8) (hS : Closed p S) (ho : o < p) (hx : x < p) (h : ob w o x = true) : ob (clW p S w) o x = true :=
 (clW_iff hp ho hx).2 ⟨o, x, ho, hx, h, hS.1 o ho, hS.1 x hx⟩
end Go.Proofs.YtkgonoejnochjaaGreatDoor
namespace Go.Proofs.YtkgonoejnochjaaGreatDoor
open Go.RowKit RM
end Go.Proofs.YtkgonoejnochjaaGreatDoor
namespace Go.Proofs.YtkgonoejnochjaaGreatDoor
open Go.RowKit RM
end Go.Proofs.YtkgonoejnochjaaGreatDoor
namespace Go.Proofs.YtkgonoejnochjaaGreatDoor
open Go.RowKit RM
end Go.Proofs.YtkgonoejnochjaaGreatDoor
namespace Go.Proofs.YtkgonoejnochjaaGreatDoor
open Go.RowKit RM
end Go.Proofs.YtkgonoejnochjaaGreatDoor
namespace Go.Proofs.YtkgonoejnochjaaGreatDoor
open Go.RowKit RM
end Go.Proofs.YtkgonoejnochjaaGreatDoor

