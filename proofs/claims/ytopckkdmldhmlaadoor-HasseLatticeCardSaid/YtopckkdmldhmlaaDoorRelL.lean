/-
  The chapter's example is as it says. Conditions: the table of math/bits in memory.
-/
import Derived.Test.YtopckkdmldhmlaaDoorRelK
namespace Go.Proofs.YtopckkdmldhmlaaDoor
open Go.RowKit RM

def exC : List Nat := cz 3 (ofR 3 [(0, 1), (1, 2)])
theorem exC_rw : RW exC := RW.mk _ _
theorem ex_has1 : hasR 3 exC 0 2 = true := by kernel_rfl
theorem ex_has2 : hasR 3 exC 2 0 = false := by kernel_rfl
theorem ex_ord : ordR 3 exC = true := by kernel_rfl
theorem ex_cov : (cvL 3 exC).length = 2 := by kernel_rfl
theorem ex_end : ends (strL (cl 3 exC)) (MM.belowN 3) 2 = 0 := by kernel_rfl
theorem ex_ends (j : Nat) (h : j < 2) : ends (strL (cl 3 exC)) (MM.belowN 3) j ≠ 0 := by
  match j, h with
  | 0, _ => decide +kernel
  | 1, _ => decide +kernel
theorem ex_pairs (w : World) : Prs (w.alloc (.cells #[.int .i64 0, .int .i64 1, .int .i64 1, .int .i64 2] 27)) (some ⟨w.heap.size, 0, none⟩) [(0, 1), (1, 2)] := fun _ =>
  ⟨w.heap.size, 0, rfl, by simp, fun j u hu => by
    rw [Nat.zero_add, cell_of_row _ w.heap.size j _ 27 (0, 0) (heap_alloc_new w _)]
    simpa [pcells] using hu⟩
end Go.Proofs.YtopckkdmldhmlaaDoor
