/-
  What With and Closure of package relate return. Conditions: 64 words below 2^64.
-/
import Derived.Test.YtopckkdmldhmlaaDoorRelOrd
namespace Go.Proofs.YtopckkdmldhmlaaDoor
open Go.RowKit RM

/-- The two blocks that a function lays first that takes a relation and gives one. -/
theorem two_new (w : World) (n : Int) (l : List Nat) : RelAt ((w.alloc (.cells (rv n l) 25)).alloc (.cells Tryd.zeroCells25 25)) w.heap.size n l ∧
    RelAt ((w.alloc (.cells (rv n l) 25)).alloc (.cells Tryd.zeroCells25 25)) (w.heap.size + 1) 0 zs ∧
    Below w.heap.size w ((w.alloc (.cells (rv n l) 25)).alloc (.cells Tryd.zeroCells25 25)) := by
  refine ⟨(RelAt.new w n l).alloc _, ?_, ((Below.refl _ _).alloc (Nat.le_refl _) _).alloc (by simp) _⟩
  rw [zero_rel]
  have := RelAt.new (w.alloc (.cells (rv n l) 25)) 0 zs
  simpa using this
/-- One row of a round of the closure. -/
def warB (R : Nat → Nat → Bool) (p k i : Nat) (a b : Nat) : Bool := decide (a < p) && decide (b < p) && (if a < i then war R (k + 1) a b else war R k a b)
theorem warB_zero (R : Nat → Nat → Bool) (p k a b : Nat) : warB R p k 0 a b = (decide (a < p) && decide (b < p) && war R k a b) := by simp [warB]
theorem warB_end (R : Nat → Nat → Bool) (p k a b : Nat) : warB R p k p a b = (decide (a < p) && decide (b < p) && war R (k + 1) a b) := by
  unfold warB
  by_cases h : a < p
  · simp [h]
  · simp [h]
theorem warB_keep {R : Nat → Nat → Bool} {p k i : Nat} {m : List Nat} (h : ∀ a b, bt m a b = warB R p k i a b) (hi : i < p) (hk : k < p) (hf : (m.getD i 0).testBit k = false) : ∀ a b, bt m a b = warB R p k (i + 1) a b := by
  intro a b
  rw [h]
  unfold warB
  by_cases e : a = i
  · subst e
    have h1 : bt m a k = false := hf
    rw [h] at h1
    unfold warB at h1
    simp only [hi, hk, decide_true, Bool.true_and, Nat.lt_irrefl, if_false] at h1
    rw [if_neg (Nat.lt_irrefl _), if_pos (Nat.lt_succ_self _), war_succ, h1]
    simp
  · by_cases h2 : a < i
    · rw [if_pos h2, if_pos (by omega)]
    · rw [if_neg h2, if_neg (by omega)]
theorem warB_or {R : Nat → Nat → Bool} {p k i : Nat} {m : List Nat} (hm : RW m) (h : ∀ a b, bt m a b = warB R p k i a b) (hi : i < p) (hk : k < p) (hp : p ≤ 64) (hf : (m.getD i 0).testBit k = true) :
    ∀ a b, bt (m.set i (m.getD i 0 ||| m.getD k 0)) a b = warB R p k (i + 1) a b := by
  intro a b
  rw [bt_set hm _ _ _ _ (by omega), Nat.testBit_or]
  have h1 : bt m i k = true := hf
  rw [h] at h1
  unfold warB at h1
  simp only [hi, hk, decide_true, Bool.true_and, Nat.lt_irrefl, if_false] at h1
  by_cases e : a = i
  · subst e
    rw [if_pos rfl]
    show (bt m a b || bt m k b) = _
    rw [h, h]
    unfold warB
    rw [if_neg (Nat.lt_irrefl _), if_pos (Nat.lt_succ_self _)]
    have h3 : (if k < a then war R (k + 1) k b else war R k k b) = war R k k b := by split <;> simp [war_at]
    rw [h3, war_succ, h1]
    simp only [hi, hk, decide_true, Bool.true_and]
    cases decide (b < p) <;> simp
  · rw [if_neg e, h]
    unfold warB
    by_cases h2 : a < i
    · rw [if_pos h2, if_pos (by omega)]
    · rw [if_neg h2, if_neg (by omega)]
theorem refl_start {n : Int} {l m : List Nat} (k : Nat) (hm : RW m) (hk : k < pts n) (h : ∀ a b, bt m a b = (decide (a < pts n) && decide (b < pts n) && (bt l a b || decide (a < k ∧ a = b)))) :
    ∀ a b, bt (addR (pts n : Nat) m k k) a b = (decide (a < pts n) && decide (b < pts n) && (bt l a b || decide (a < k + 1 ∧ a = b))) := by
  intro a b
  rw [bt_addR hm, h, isPt_nat, pts_pts]
  simp only [hk, decide_true, Bool.true_and]
  by_cases h1 : a < pts n
  · by_cases h2 : b < pts n
    · simp only [h1, h2, decide_true, Bool.true_and, Bool.or_assoc]
      congr 1
      rw [Bool.eq_iff_iff]
      simp
      omega
    · simp only [h1, h2, decide_true, decide_false, Bool.and_false, Bool.false_and, Bool.false_or]
      rw [Bool.eq_iff_iff]
      simp
      omega
  · simp only [h1, decide_false, Bool.false_and, Bool.false_or]
    rw [Bool.eq_iff_iff]
    simp
    omega
end Go.Proofs.YtopckkdmldhmlaaDoor
