/- Texts that SpellNodeCard, SpellBackCard, SpellSoundCard need. Conditions: those that each states. -/
import Derived.Great.BuildSlice
import Derived.Test.YtkgonoejnochjaaGreatDoorY16
set_option linter.unusedSimpArgs false
set_option linter.unusedVariables false
set_option maxRecDepth 8000
namespace Go.Proofs.YtkgonoejnochjaaGreatDoor
open Go.RowKit RM
section
variable {a b c : Nat}
end
section
variable {t : Bool} {fs : List Fac} {a b c : List Nat}
end
section
variable {t : Bool} {fs : List Fac} {a b : List Nat}
end
end Go.Proofs.YtkgonoejnochjaaGreatDoor
namespace Go.Proofs.YtkgonoejnochjaaGreatDoor
open Go.RowKit RM
section
variable {w w' : World} {A : Option Addr} {fs : List Fac}
end
section
variable {ops : Array Oper} {rest : List Oper} {o : Oper} {a : Act} {w : World} {Q : Exit → Act → World → Prop}
end
section
variable {o : Oper} {a : Act} {S : World → Prop}
theorem take_loadShape (x : Operand) (ho : o.op = .load 24 x) (g : Nat) (hx : a.eval x = .pointer (some ⟨g, 0, none⟩)) (t : Bool) (A : Option Addr) (n c : Nat) (hS : ∀ w, S w → RowAt w g 24 (sv t A n c)) :
 ∀ w, S w → (execOp a.eval o).run Tryz.prog w = .ok (.value (.agg (sv t A n c))) w := by
 intro w h
 unfold execOp
 simp only [ho, hx, Instr.loadAt, Instr.sureAddr, Sem.run_bind, Sem.run_pure, Result.andThen_ok, run_loadVar_row w g _ _ _ (0, 0) _ (hS w h) Tryz.underlying24 rfl (by kernel_rfl)]
end
end Go.Proofs.YtkgonoejnochjaaGreatDoor
namespace Go.Proofs.YtkgonoejnochjaaGreatDoor
open Go.RowKit RM
end Go.Proofs.YtkgonoejnochjaaGreatDoor
namespace Go.Proofs.YtkgonoejnochjaaGreatDoor
open Go.RowKit RM
end Go.Proofs.YtkgonoejnochjaaGreatDoor
namespace Go.Proofs.YtkgonoejnochjaaGreatDoor
open Go.RowKit RM
end Go.Proofs.YtkgonoejnochjaaGreatDoor
namespace Go.Proofs.YtkgonoejnochjaaGreatDoor
open Go.RowKit RM
end Go.Proofs.YtkgonoejnochjaaGreatDoor
namespace Go.Proofs.YtkgonoejnochjaaGreatDoor
open Go.RowKit RM
end Go.Proofs.YtkgonoejnochjaaGreatDoor
namespace Go.Proofs.YtkgonoejnochjaaGreatDoor
open Go.RowKit RM
end Go.Proofs.YtkgonoejnochjaaGreatDoor
namespace Go.Proofs.YtkgonoejnochjaaGreatDoor
namespace TM
def eqL {α : Type} (g : α → α → Bool) : List α → List α → Bool
 | [], [] => true
 | [], _ :: _ => false
 | _ :: _, [] => false
 | x :: a, y :: b => g x y && eqL g a b
theorem eqL_len {α : Type} {g : α → α → Bool} : ∀ {a b : List α}, ¬ a.length = b.length → eqL g a b = false
 | [], [], h => absurd rfl h
 | [], _ :: _, _ => rfl
 | _ :: _, [], _ => rfl
 | x :: a, y :: b, h => by
   rw [eqL, eqL_len (fun e => h (by simp [e]))]
   exact Bool.and_false _
theorem eqL_hit {α : Type} {g : α → α → Bool} {z : α} : ∀ {a b : List α}, a.length = b.length → ∀ i, i < a.length → g (a.getD i z) (b.getD i z) = false → eqL g a b = false
 | [], [], _, i, hi, _ => by simp at hi
 | x :: a, y :: b, h, 0, _, hg => by
   rw [List.getD_cons_zero, List.getD_cons_zero] at hg
   rw [eqL, hg]; rfl
 | x :: a, y :: b, h, i + 1, hi, hg => by
   rw [List.getD_cons_succ, List.getD_cons_succ] at hg
   rw [eqL, eqL_hit (z := z) (by simpa using h) i (by simpa using hi) hg]
   exact Bool.and_false _
end TM
open Go.RowKit LX TR TM
end Go.Proofs.YtkgonoejnochjaaGreatDoor
namespace Go.Proofs.YtkgonoejnochjaaGreatDoor
namespace TM
def sw (a b : Wd) : Bool := decide (a.s = b.s)
def sms : List Nd → List Nd → Bool
 | [], [] => true
 | [], _ :: _ => false
 | _ :: _, [] => false
 | .mk k _ s _ _ ws _ _ ks :: r, y :: b => (decide (k = y.k) && (decide (s = y.s) && (eqL sw ws y.ws && sms ks y.ks))) && sms r b
def sm (x y : Nd) : Bool := decide (x.k = y.k) && (decide (x.s = y.s) && (eqL sw x.ws y.ws && sms x.ks y.ks))
theorem sms_eqL : ∀ a b : List Nd, sms a b = eqL sm a b
 | [], [] => by rw [sms, eqL]
 | [], _ :: _ => by rw [sms, eqL]
 | _ :: _, [] => by rw [sms, eqL]
 | .mk k p s A c ws B d ks :: r, y :: b => by rw [sms, eqL, sms_eqL r b]; rfl
end TM
open Go.RowKit LX TR TM
end Go.Proofs.YtkgonoejnochjaaGreatDoor
namespace Go.Proofs.YtkgonoejnochjaaGreatDoor
open Go.RowKit LX TR TM
end Go.Proofs.YtkgonoejnochjaaGreatDoor
namespace Go.Proofs.YtkgonoejnochjaaGreatDoor
open Go.RowKit RM
end Go.Proofs.YtkgonoejnochjaaGreatDoor
namespace Go.Proofs.YtkgonoejnochjaaGreatDoor
open Go.RowKit RM
end Go.Proofs.YtkgonoejnochjaaGreatDoor
namespace Go.Proofs.YtkgonoejnochjaaGreatDoor
open Go.RowKit RM
theorem ofP_at {P : Nat → Bool} {p x : Nat} (hp : p ≤ 64) (hx : x < p) : (MM.ofP (fun x => decide (x < p) && P x) 64).testBit x = P x := by
 rw [MM.ofP_bit, show decide (x < 64) = true by simp; omega, show decide (x < p) = true by simp; omega]; rfl
end Go.Proofs.YtkgonoejnochjaaGreatDoor
namespace Go.Proofs.YtkgonoejnochjaaGreatDoor
open Go.RowKit RM
end Go.Proofs.YtkgonoejnochjaaGreatDoor
namespace Go.Proofs.YtkgonoejnochjaaGreatDoor
open Go.RowKit RM
end Go.Proofs.YtkgonoejnochjaaGreatDoor
namespace Go.Proofs.YtkgonoejnochjaaGreatDoor
namespace TM
theorem sms_refl : ∀ l : List Nd, sms l l = true := by
 refine ind (by rw [sms]) fun k p s A c ws B d ks r h1 h2 => ?_
 rw [sms, h2]
 have hw : ∀ ws : List Wd, eqL sw ws ws = true := fun ws => by
  induction ws with
  | nil => rfl
  | cons x r ih => rw [eqL, ih]; simp [sw]
 show (decide (k = k) && (decide (s = s) && (eqL sw ws ws && sms ks ks))) && true = true
 rw [hw, h1]; simp
theorem sm_refl (x : Nd) : sm x x = true := by
 have h := sms_refl [x]
 rw [sms_eqL, eqL, eqL, Bool.and_true] at h
 exact h
end TM
open Go.RowKit LX TR TM
end Go.Proofs.YtkgonoejnochjaaGreatDoor
namespace Go.Proofs.YtkgonoejnochjaaGreatDoor
namespace TM
theorem sms_erS : ∀ a b : List Nd, sms (TM.er a) b = sms a b := by
 refine ind (fun b => by simp [TM.er]) fun k p s A c ws B d ks r h1 h2 b => ?_
 cases b with
 | nil => rw [TM.er, sms, sms]
 | cons y b => rw [TM.er, sms, sms, h1, h2]
theorem sm_same {x y : Nd} (h : er1 x = er1 y) : sm x y = true := by
 have h1 : ∀ z, sm (er1 z) y = sm z y := fun z => by
  have h := sms_erS [z] [y]
  rw [er_one, sms_eqL, sms_eqL] at h
  simpa [eqL] using h
 rw [← h1 x, h, h1 y]
 exact sm_refl y
end TM
open Go.RowKit LX TR TM
end Go.Proofs.YtkgonoejnochjaaGreatDoor

