/-
  What New, point and Has of package relate return. Conditions: 64 words below 2^64.
-/
import Derived.Test.YtopckkdmldhmlaaDoorRelKit
import Derived.Outline
namespace Go.Proofs.YtopckkdmldhmlaaDoor
open Go.RowKit RM

theorem new_any (n : Int) (w : World) :
    Calls Tryd.prog 39 #[.int .i64 n] w fun e w' => e = .returned (.agg (rv ((pts n : Nat) : Int) zs)) ∧ Below w.heap.size w w' := by
  rcases Int.lt_or_le n 0 with h0 | h0
  · rw [pts_neg h0]
    go_enter Tryd.func39, Tryd.ntmps39
    go_wp2_with (refine wpList_storeRel rfl _ _ rfl w.heap.size rfl 0 zs ?c1 0 zs RW.zs RW.zs ?c2 ?_; (case c1 => exact congrArg Value.agg (by rw [zero_rel, rv_setN])); (case c2 => rw [zero_rel]; exact RelAt.new _ _ _); intro w2 hr he)
    exact bodyPost_ret (ret_rel rfl _ _ w.heap.size _ _ RW.zs rfl hr) rfl ⟨rfl, ((Below.refl _ _).alloc (Nat.le_refl _) _).trans (he.below (Nat.le_refl _))⟩
  · rcases Int.lt_or_le 64 n with h1 | h1
    · rw [pts_big h1]
      go_enter Tryd.func39, Tryd.ntmps39
      go_wp2_with (refine wpList_storeRel rfl _ _ rfl w.heap.size rfl 64 zs ?c1 0 zs RW.zs RW.zs ?c2 ?_; (case c1 => exact congrArg Value.agg (by rw [zero_rel, rv_setN])); (case c2 => rw [zero_rel]; exact RelAt.new _ _ _); intro w2 hr he)
      exact bodyPost_ret (ret_rel rfl _ _ w.heap.size _ _ RW.zs rfl hr) rfl ⟨rfl, ((Below.refl _ _).alloc (Nat.le_refl _) _).trans (he.below (Nat.le_refl _))⟩
    · have hn := pts_in h0 h1
      generalize pts n = p at *
      subst hn
      go_enter Tryd.func39, Tryd.ntmps39
      go_wp2_with (refine wpList_storeRel rfl _ _ rfl w.heap.size rfl (p : Int) zs ?c1 0 zs RW.zs RW.zs ?c2 ?_; (case c1 => exact congrArg Value.agg (by rw [zero_rel, rv_setN])); (case c2 => rw [zero_rel]; exact RelAt.new _ _ _); intro w2 hr he)
      exact bodyPost_ret (ret_rel rfl _ _ w.heap.size _ _ RW.zs rfl hr) rfl ⟨rfl, ((Below.refl _ _).alloc (Nat.le_refl _) _).trans (he.below (Nat.le_refl _))⟩

/-- Is it a point? -/
def isPt (n i : Int) : Bool := decide (0 ≤ i) && decide (i < (pts n : Int))
theorem isPt_true {n i : Int} (h0 : 0 ≤ i) (h : i < (pts n : Int)) : isPt n i = true := by simp [isPt, h0, h]
theorem point_any (n : Int) (l : List Nat) (i : Int) (w : World) :
    Calls Tryd.prog 42 #[.agg (rv n l), .int .i64 i] w fun e w' => e = .returned (.bool (isPt n i)) ∧ Below w.heap.size w w' := by
  have h0 := rv_0 n l
  have h1 := run_field0 (pts n) zs
  generalize hr : rv n l = r at *
  generalize hr2 : rv (pts n) zs = r2 at *
  have H2 := Lib.hid hr2
  clear hr hr2
  rcases Int.lt_or_le i 0 with hi | hi
  · have hf : isPt n i = false := by unfold isPt; rw [decide_eq_false (show ¬ 0 ≤ i by omega)]; rfl
    rw [hf]
    go_enter Tryd.func42, Tryd.ntmps42
    go_wp2_with fail
    go_ret
    exact ⟨rfl, (Below.refl _ _).alloc (Nat.le_refl _) _⟩
  · have hf : isPt n i = decide (i < (pts n : Int)) := by unfold isPt; rw [decide_eq_true hi]; rfl
    rw [hf]
    generalize hp : pts n = p at *
    have HP := Lib.hid hp; clear hp
    go_enter Tryd.func42, Tryd.ntmps42
    go_wp2_with (go_at_call 39; refine (new_any _ _).mono ?_; rintro e w' ⟨rfl, hb⟩; rw [HP.out, H2.out])
    go_ret
    exact ⟨rfl, ((Below.refl _ _).alloc (Nat.le_refl _) _).trans (hb.mono (by simp))⟩
end Go.Proofs.YtopckkdmldhmlaaDoor
