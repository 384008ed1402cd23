/-
  Numbers of layer 4: which numbers are levels, the words of levels, how many elements they have. Conditions: none.
-/
import Derived.Test.YtojbmahapomoeaaMaskMath
namespace Go.Proofs.Ytojbmahapomoeaa.RG

def okR (n k : Int) : Bool := decide (0 ≤ k ∧ k < n ∧ n ≤ 64)
def wR (n k : Int) : Nat := if okR n k = true then MM.belowN k else 0
theorem belowN_lt (k : Int) : MM.belowN k < 18446744073709551616 := MM.ofP_lt _ _
theorem wR_lt (n k : Int) : wR n k < 18446744073709551616 := by
  unfold wR; split
  · exact belowN_lt k
  · omega
theorem wR_in {n k : Int} (h : okR n k = true) : wR n k = MM.belowN k := if_pos h
theorem wR_out {n k : Int} (h : okR n k = false) : wR n k = 0 := if_neg (by simp [h])
theorem ok_iff {n k : Int} : okR n k = true ↔ 0 ≤ k ∧ k < n ∧ n ≤ 64 := by simp [okR]
theorem no_iff {n k : Int} : okR n k = false ↔ ¬ (0 ≤ k ∧ k < n ∧ n ≤ 64) := by simp [okR]
theorem filter_len (k : Nat) : ∀ m, ((List.range m).filter fun i => decide (i < k)).length = min m k
  | 0 => by simp
  | m + 1 => by
    rw [List.range_succ, List.filter_append, List.length_append, filter_len k m]
    by_cases h : m < k
    · simp [h]; omega
    · simp [h]; omega
/-- How many elements a set has. -/
def cnt (w : Nat) : Nat := (MM.els w).length
theorem cnt_le (w : Nat) : cnt w ≤ 64 := MM.els_length w
theorem cnt_below (k : Nat) (hk : k ≤ 64) : cnt (MM.belowN k) = k := by
  have h : MM.els (MM.belowN k) = (List.range 64).filter fun i => decide (i < k) := by
    unfold MM.belowN
    rw [MM.els_ofP]
    refine List.filter_congr fun i _ => ?_
    rw [decide_eq_decide]
    omega
  unfold cnt
  rw [h, filter_len]
  omega
def lvB (n : Int) (w : Nat) : Bool := okR n (cnt w) && decide (MM.belowN (cnt w) = w)
def lv (n : Int) (w : Nat) : Int := if lvB n w = true then (cnt w : Int) else 0
theorem lv_in {n : Int} {w : Nat} (h : lvB n w = true) : lv n w = cnt w := if_pos h
theorem lv_out {n : Int} {w : Nat} (h : lvB n w = false) : lv n w = 0 := if_neg (by simp [h])
/-- A level's word is of that level. -/
theorem lv_of {n : Int} {w k : Nat} (h : okR n k = true) (hw : MM.belowN k = w) : lvB n w = true ∧ cnt w = k := by
  have hk := ok_iff.1 h
  have hc : cnt w = k := by rw [← hw]; exact cnt_below k (by omega)
  refine ⟨?_, hc⟩
  unfold lvB
  rw [hc, h, hw]; simp
theorem lv_none {n : Int} {w m : Nat} (hm : n ≤ m ∨ 64 ≤ m) (h : ∀ j, j < m → ¬ (okR n j = true ∧ MM.belowN j = w)) : lvB n w = false := by
  cases hb : lvB n w with
  | false => rfl
  | true =>
    unfold lvB at hb
    rw [Bool.and_eq_true, decide_eq_true_eq] at hb
    have h1 := ok_iff.1 hb.1
    exact absurd hb (h (cnt w) (by omega))
theorem els_below_bit (k : Int) (i : Nat) : (MM.belowN k).testBit i = (decide (i < 64) && decide ((i : Int) < k)) := MM.ofP_bit _ _ _
theorem sub_below (i j : Int) (hi : i ≤ 64) (hj : 0 ≤ j) : MM.subN (MM.belowN i) (MM.belowN j) = decide (i ≤ j) := by
  unfold MM.subN
  rw [Bool.eq_iff_iff, List.all_eq_true, decide_eq_true_eq]
  constructor
  · intro h
    rcases Int.lt_or_le j i with hlt | hle
    · exfalso
      have h2 := h (i.toNat - 1)
      rw [MM.mem_els, els_below_bit, els_below_bit] at h2
      have h3 := h2 ⟨by omega, by rw [Bool.and_eq_true, decide_eq_true_eq, decide_eq_true_eq]; omega⟩
      rw [Bool.and_eq_true, decide_eq_true_eq, decide_eq_true_eq] at h3
      omega
    · exact hle
  · intro h k hk
    rw [MM.mem_els, els_below_bit, Bool.and_eq_true, decide_eq_true_eq, decide_eq_true_eq] at hk
    rw [els_below_bit, Bool.and_eq_true, decide_eq_true_eq, decide_eq_true_eq]
    omega
theorem or_below (i j : Int) : MM.belowN i ||| MM.belowN j = MM.belowN (max i j) := by
  refine MM.ext64 (Nat.or_lt_two_pow (belowN_lt i) (belowN_lt j)) (belowN_lt _) fun k hk => ?_
  rw [Nat.testBit_or, els_below_bit, els_below_bit, els_below_bit, Bool.eq_iff_iff]
  simp [hk]; omega
theorem and_below (i j : Int) : MM.belowN i &&& MM.belowN j = MM.belowN (min i j) := by
  refine MM.ext64 (Nat.and_lt_two_pow _ (belowN_lt j)) (belowN_lt _) fun k hk => ?_
  rw [Nat.testBit_and, els_below_bit, els_below_bit, els_below_bit, Bool.eq_iff_iff]
  simp [hk]; omega
end Go.Proofs.Ytojbmahapomoeaa.RG
