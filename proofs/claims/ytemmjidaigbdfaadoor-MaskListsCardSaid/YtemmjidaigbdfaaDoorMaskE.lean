/-
  What the statements' own helper of layer 1 returns: true. Conditions: the table of math/bits in memory.
-/
import Derived.Test.YtemmjidaigbdfaaDoorMaskD
namespace Go.Proofs.YtemmjidaigbdfaaDoor
open Go.RowKit

theorem nth_9 (w : World) (hT : Tab w) :
    Calls Tryd.prog 22 #[.int .u64 9, .int .i64 1] w fun e w' => e = .returned (.tuple #[.int .i64 3, .bool true]) ∧ w = w' := by
  have h := nth_in 9 (by omega) 1 w (by decide) hT
  rw [show (MM.els 9).getD 1 0 = 3 by decide] at h
  exact h
theorem list_9 (w : World) (hT : Tab w) :
    Calls Tryd.prog 24 #[.int .u64 9] w fun e w' => ∃ A c, e = .returned (.slice A 2 c) ∧ OwnI w' w.heap.size A c [0, 3] ∧ Below w.heap.size w w' := by
  have h := list_any 9 (by omega) w hT
  rw [show MM.els 9 = [0, 3] by decide] at h
  exact h
theorem below_2 (w : World) :
    Calls Tryd.prog 19 #[.int .i64 2] w fun e w' => e = .returned (.int .u64 3) ∧ w = w' := by
  have h := below_any 2 w
  rw [show MM.belowN 2 = 3 by decide] at h
  exact h
theorem of_9 (w : World) : Calls Tryd.prog 9 #[.slice (some ⟨w.heap.size, 0, none⟩) 3 3] (w.alloc (.cells #[.int .i64 3, .int .i64 0, .int .i64 70] 3)) fun e w' => e = .returned (.int .u64 9) ∧ w.alloc (.cells #[.int .i64 3, .int .i64 0, .int .i64 70] 3) = w' := by
  have h := of_any (some ⟨w.heap.size, 0, none⟩) 3 [3, 0, 70] (w.alloc (.cells #[.int .i64 3, .int .i64 0, .int .i64 70] 3)) (by decide) (new_ints w [3, 0, 70] 3)
  rw [show MM.ofN [3, 0, 70] = 9 by decide] at h
  exact h
set_option maxHeartbeats 800000 in
theorem alive_any (w : World) (hT : Tab w) : Calls Tryd.prog 8 #[] w fun e w' => e = .returned (.bool true) ∧ Below w.heap.size w w' := by
  have HT := Lib.hid hT; clear hT
  go_enter Tryd.func8, Tryd.ntmps8
  go_wp2_with fail
  refine (of_9 w).mono ?_
  rintro e w1 ⟨rfl, rfl⟩
  have hb1 : Below w.heap.size w (w.alloc (.cells #[.int .i64 3, .int .i64 0, .int .i64 70] 3)) := (Below.refl _ _).alloc (Nat.le_refl _) _
  have HT1 := Lib.hid (HT.out.below hb1)
  have HB1 := Lib.hid hb1; clear hb1
  go_wp2_with fail
  refine (nth_9 _ HT1.out).mono ?_
  rintro e w1 ⟨rfl, rfl⟩
  go_wp2_with fail
  refine (list_9 _ HT1.out).mono ?_
  rintro e w2 ⟨A, c, rfl, hown, hb2⟩
  have hsz := hb2.size
  have HI := Lib.hid hown.ints
  have HB2 := Lib.hid (HB1.out.trans (hb2.mono HB1.out.size))
  clear hb2 hown
  go_wp2_with fail
  refine (ints_any A (some ⟨w2.heap.size, 0, none⟩) c 2 [0, 3] [0, 3] (w2.alloc (.cells #[.int .i64 0, .int .i64 3] 3)) (by decide) (HI.out.below ((Below.refl _ _).alloc (Nat.le_refl _) _)) (new_ints w2 [0, 3] 3)).mono ?_
  rintro e w3 ⟨rfl, hb3⟩
  have HB3 := Lib.hid ((HB2.out.alloc HB2.out.size _).trans (hb3.mono (by simp; exact Nat.le_trans HB2.out.size (by omega))))
  clear hb3
  have hdd : decide (([0, 3] : List Int) = [0, 3]) = true := by decide
  rw [hdd]
  go_wp2_with (go_at_call 19; refine (below_2 _).mono ?_; rintro e w' ⟨rfl, rfl⟩)
  go_ret
  exact ⟨rfl, HB3.out⟩
end Go.Proofs.YtemmjidaigbdfaaDoor
