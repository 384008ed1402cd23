/-
  RelateReaches holds. Conditions: 64 words below 2^64; the table of math/bits in memory.
-/
import Derived.Test.YtopckkdmldhmlaaDoorRelN
namespace Go.Proofs.YtopckkdmldhmlaaDoor
open Go.RowKit RM

/-- What a region may be told of the worlds that come: what was there is as it was. -/
theorem ex_gen (W : World) : ∃ S : World → Prop, Hid (S W.drew) ∧ (∀ w', S w' → Below W.heap.size W w') ∧ (∀ wa wb, S wa → Below wa.heap.size wa wb → S wb) :=
  ⟨fun w' => Below W.heap.size W w', (Below.refl _ _).drew, fun _ h => h, fun _ _ h hb => h.trans (hb.mono h.size)⟩
theorem hasR_cz (n : Int) (l : List Nat) (i j : Int) : hasR (pts n : Nat) (cz n l) i j = rchB n l i j := by
  unfold hasR rchB isPt
  rw [pts_pts, bt_cz]
/-- A pair in a block of its own. -/
def PairAt (w : World) (g : Nat) (lo hi : Int) : Prop := w.heap[g]? = some (.cells #[.int .i64 lo, .int .i64 hi] 27 (0, 0))
section
variable {w w' : World} {g : Nat} {lo hi : Int}
theorem PairAt.lt (h : PairAt w g lo hi) : g < w.heap.size := (Array.getElem?_eq_some_iff.1 h).1
theorem PairAt.c0 (h : PairAt w g lo hi) : w.cell? ⟨g, 0, none⟩ = some (.int .i64 lo) := by rw [cell_of_row w g 0 _ 27 (0, 0) h]; rfl
theorem PairAt.c1 (h : PairAt w g lo hi) : w.cell? ⟨g, 1, none⟩ = some (.int .i64 hi) := by rw [cell_of_row w g 1 _ 27 (0, 0) h]; rfl
theorem PairAt.new (w : World) (lo hi : Int) : PairAt (w.alloc (.cells #[.int .i64 lo, .int .i64 hi] 27)) w.heap.size lo hi := heap_alloc_new w _
theorem PairAt.alloc (h : PairAt w g lo hi) (o : Obj) : PairAt (w.alloc o) g lo hi := (heap_alloc_old w o h.lt).trans h
theorem PairAt.below {B : Nat} (h : PairAt w g lo hi) (hb : Below B w w') (hg : g < B) : PairAt w' g lo hi := (hb.block g hg).trans h
theorem PairAt.other {q : Nat} (hr : PairAt w g lo hi) (h : Else q w w') (hq : g ≠ q) : PairAt w' g lo hi := (h.block g hq).trans hr
end
end Go.Proofs.YtopckkdmldhmlaaDoor
