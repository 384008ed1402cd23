/- Texts that all the claims need. Conditions: those that each states. -/
import Derived.BigRegion
import Derived.Deep.CutRange
import Derived.Ground.SlgnProg
import Derived.IntWalk
import Derived.Laws.AppendOwnNone
import Derived.Laws.OwnMore
import Derived.RegionTactic
import Derived.Shelf.SlicesE.Compact
import Derived.Shelf.Small.Bits
import Derived.Shelf.Strconv.Itoa0
import Derived.Sort.Row
import Derived.Test.YtdahllhbpdbknaaGreatDoorTc1
set_option linter.unusedSimpArgs false
set_option linter.unusedVariables false
set_option maxRecDepth 100000
set_option maxHeartbeats 40000000
namespace Go.Proofs.YtdahllhbpdbknaaGreatDoor
section
open RM
def rightB (n : Int) (l : List Nat) : Bool := decide (1 ≤ n) && decide (n ≤ 8) && closedB n l
theorem right_no {n : Int} {l : List Nat} (h : n < 1 ∨ 8 < n ∨ closedB n l = false) : rightB n l = false := by
 unfold rightB
 rcases h with h | h | h
 ·rw [show decide (1 ≤ n) = false by simp; omega]; rfl
 ·rw [show decide (n ≤ 8) = false by simp; omega, Bool.and_false]; rfl
 ·rw [h, Bool.and_false]
theorem right_in {n : Int} {l : List Nat} (h1 : 1 ≤ n) (h2 : n ≤ 8) : rightB n l = closedB n l := by
 unfold rightB
 rw [show decide (1 ≤ n) = true by simpa using h1, show decide (n ≤ 8) = true by simpa using h2]; rfl
theorem right_has {n : Int} {l : List Nat} (h : rightB n l = true) : ∃ p : Nat, 1 ≤ p ∧ p ≤ 8 ∧ n = (p : Int) ∧ pts n = p ∧ closedB n l = true := by
 unfold rightB at h
 simp only [Bool.and_eq_true, decide_eq_true_eq] at h
 refine ⟨n.toNat, by omega, by omega, by omega, ?_, h.2⟩
 have := pts_in (n := n) (by omega) (by omega)
 omega
def mkW (p : Nat) (P : Nat → Nat → Bool) : Nat := MM.ofP (fun i => decide (i / 8 < p) && decide (i % 8 < p) && P (i / 8) (i % 8)) 64
def ob (w o x : Nat) : Bool := w.testBit (8 * o + x)
theorem ob_mkW (p : Nat) (P : Nat → Nat → Bool) (o x : Nat) (ho : o < 8) (hx : x < 8) : ob (mkW p P) o x = (decide (o < p) && decide (x < p) && P o x) := by
 unfold ob mkW
 rw [MM.ofP_bit, show (8 * o + x) / 8 = o by omega, show (8 * o + x) % 8 = x by omega, show decide (8 * o + x < 64) = true by simp; omega, Bool.true_and]
def Tight (p a : Nat) : Prop := ∀ o x, o < 8 → x < 8 → ob a o x = true → o < p ∧ x < p
theorem Tight.mk (p : Nat) (P : Nat → Nat → Bool) : Tight p (mkW p P) := fun o x ho hx h => by
 rw [ob_mkW _ _ _ _ ho hx] at h
 simp only [Bool.and_eq_true, decide_eq_true_eq] at h
 exact h.1
end
section
open Go.RowKit RM
theorem gright_any (n : Int) (l : List Nat) (hl : RW l) (w : World) :
 Calls Tryz.prog 89 #[.agg (rv n l)] w fun e w' => e = .returned (.bool (rightB n l)) ∧ Below w.heap.size w w' := by
 have hr1 := RelAt.new w n l
 have hc0 := hr1.cell0
 have hb : Below w.heap.size w (w.alloc (.cells (rv n l) 59)) := (zB _ _).alloc (zL _) _
 have HB := zh hb; clear hb
 by_cases h1 : n < 1
 ·rw [right_no (.inl h1)]
  go_enter Tryz.func89, Tryz.ntmps89
  go_wp2_with fail
  go_ret
  exact ⟨rfl, HB.out⟩
 ·by_cases h2 : 8 < n
  ·rw [right_no (.inr (.inl h2))]
   have h3 : 1 ≤ n := by omega
   have h4 : decide (n ≤ 8) = false := by simp; omega
   go_enter Tryz.func89, Tryz.ntmps89
   go_wp2_with fail
   go_ret
   exact ⟨rfl, HB.out⟩
  ·rw [right_in (by omega) (by omega)]
   have HC : Hid (∀ w, Calls Tryz.prog 101 #[.agg (rv n l)] w fun e w' => e = .returned (.bool (closedB n l)) ∧ Below w.heap.size w w') := rclosed_any n l hl
   generalize closedB n l = b at *
   have h3 : 1 ≤ n := by omega
   have h4 : n ≤ 8 := by omega
   go_enter Tryz.func89, Tryz.ntmps89
   go_wp2_with (refine wpList_loadRel rfl _ rfl w.heap.size rfl n l hl hr1 ?_)
   refine (HC.out _).mono ?_
   rintro e w1 ⟨rfl, hb1⟩
   have HB1 := zh (HB.out.trans (hb1.mono (by simp))); clear hb1
   go_wp2_with fail
   go_ret
   exact ⟨by cases b <;> rfl, HB1.out⟩
end
section
open Go.RowKit RM
end
section
open Go.RowKit RM
end
section
open Go.RowKit RM
end
section
open Go.RowKit RM
end
end Go.Proofs.YtdahllhbpdbknaaGreatDoor
