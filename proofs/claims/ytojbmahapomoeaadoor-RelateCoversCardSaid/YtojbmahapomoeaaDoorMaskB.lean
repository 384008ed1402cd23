/-
  What the functions of package mask and of its reference return that loop without making memory. Conditions: the table of math/bits in memory, where the least element is asked for; slices that read as lists.
-/
import Derived.Test.YtojbmahapomoeaaDoorMaskA
import Derived.LoopTactic
import Derived.Deep.QuietTactic
import Derived.BigQuiet
namespace Go.Proofs.YtojbmahapomoeaaDoor
open Go.RowKit

/-- The halving loop's step. -/
theorem halves (s k q : Nat) (h : q = s / 2 ^ k) : q / 2 = s / 2 ^ (k + 1) := by rw [h, MM.half_half]
theorem half_lt (s k : Nat) (hs : s < 18446744073709551616) : s / 2 ^ k < 18446744073709551616 := Nat.lt_of_le_of_lt (Nat.div_le_self _ _) hs

/-- A slice of ints in memory. -/
def Ints (w : World) (A : Option Addr) (xs : List Int) : Prop := Sl w w.heap.size A (xs.map (Value.int .i64))
theorem Ints.below {w w' : World} {A : Option Addr} {xs : List Int} (h : Ints w A xs) (hb : Below w.heap.size w w') : Ints w' A xs := (Sl.below h hb).mono hb.size
theorem Ints.cell {w : World} {A : Option Addr} {xs : List Int} (h : Ints w A xs) (hne : xs ≠ []) : ∃ b o, A = some ⟨b, o, none⟩ ∧ ∀ j, j < xs.length → w.cell? ⟨b, o + j, none⟩ = some (.int .i64 (xs.getD j 0)) := by
  obtain ⟨b, o, hA, _, hc⟩ := Sl.at_ h (by simpa using hne)
  exact ⟨b, o, hA, fun j hj => hc j _ (by rw [List.getElem?_map, List.getElem?_eq_getElem hj, List.getD_eq_getElem?_getD, List.getElem?_eq_getElem hj]; rfl)⟩

theorem take_snoc (xs : List Int) (k : Nat) (h : k < xs.length) : xs.take (k + 1) = xs.take k ++ [xs.getD k 0] := by
  rw [List.take_succ_eq_append_getElem h, List.getD_eq_getElem?_getD, List.getElem?_eq_getElem h]; rfl

end Go.Proofs.YtojbmahapomoeaaDoor
