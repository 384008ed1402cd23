/- Texts that all the claims need. Conditions: those that each states. -/
import Derived.Deep.CutRange
import Derived.Test.YtnfndapgcpdcpaaGreatDoorFa6
import Derived.Test.YtnfndapgcpdcpaaGreatDoorFa7
set_option linter.unusedSimpArgs false
set_option linter.unusedVariables false
set_option maxRecDepth 100000
set_option maxHeartbeats 40000000
namespace Go.Proofs.YtnfndapgcpdcpaaGreatDoor
section
open Go.RowKit RM
end
section
open Go.RowKit RM
end
section
open Go.RowKit RM
end
section
open Go.RowKit RM
def stp (n : Int) (l : List Nat) (i j : Nat) : Bool := bt (strL (cl n l)) i j
theorem stp_eq (n : Int) (l : List Nat) (i j : Nat) : stp n l i j = (decide (i < pts n) && decide (j < pts n) && bt l i j && decide (i ≠ j)) := by
 unfold stp
 rw [bt_strL (show RW (cl n l) from RW.mk _ _), bt_cl]
def Ends (n : Int) (l : List Nat) (k j : Nat) : Prop := (ends (strL (cl n l)) (MM.belowN n) k).testBit j = true
section
variable {n : Int} {l : List Nat}
theorem stp_lt {i j : Nat} (h : stp n l i j = true) : i < pts n ∧ j < pts n := by
 rw [stp_eq] at h
 simp only [Bool.and_eq_true, decide_eq_true_eq] at h
 exact ⟨h.1.1.1, h.1.1.2⟩
theorem below_pts (i : Nat) : (MM.belowN n).testBit i = decide (i < pts n) := by
 unfold MM.belowN
 rw [MM.ofP_bit]
 unfold pts
 rw [Bool.eq_iff_iff]
 simp only [decide_eq_true_eq, Bool.and_eq_true]
 split
 ·constructor <;> intro h <;> omega
 ·split <;> (constructor <;> intro h <;> omega)
theorem ends_zero {j : Nat} : Ends n l 0 j ↔ ∃ i, stp n l i j = true := by
 have hp := pts_le n
 unfold Ends
 simp only [ends]
 rw [abv_bit]
 constructor
 ·rintro ⟨i, _, _, h⟩; exact ⟨i, h⟩
 ·rintro ⟨i, h⟩
  have := stp_lt h
  exact ⟨i, by omega, by rw [below_pts]; exact zE this.1, h⟩
theorem ends_succ {k j : Nat} : Ends n l (k + 1) j ↔ ∃ i, Ends n l k i ∧ stp n l i j = true := by
 have hp := pts_le n
 unfold Ends
 simp only [ends]
 rw [abv_bit]
 constructor
 ·rintro ⟨i, _, h1, h⟩; exact ⟨i, h1, h⟩
 ·rintro ⟨i, h1, h⟩
  have := stp_lt h
  exact ⟨i, by omega, h1, h⟩
theorem ends_down : ∀ {k j : Nat}, Ends n l (k + 1) j → Ends n l k j
 | 0, j, h => by obtain ⟨i, _, h2⟩ := ends_succ.1 h; exact ends_zero.2 ⟨i, h2⟩
 | k + 1, j, h => by obtain ⟨i, h1, h2⟩ := ends_succ.1 h; exact ends_succ.2 ⟨i, ends_down h1, h2⟩
def cntL (n : Int) (l : List Nat) (j : Nat) : Nat := ((List.range (pts n)).filter fun x => stp n l x j).length
theorem cnt_le (j : Nat) : cntL n l j ≤ pts n := by
 have := List.length_filter_le (fun x => stp n l x j) (List.range (pts n))
 simpa [cntL] using this
theorem filter_lt {xs : List Nat} {q r : Nat → Bool} {a : Nat} (ha : a ∈ xs) (h : ∀ x, x ∈ xs → q x = true → r x = true) (h1 : q a = false) (h2 : r a = true) : (xs.filter q).length < (xs.filter r).length := by
 induction xs with
 | nil => cases ha
 | cons x xs ih =>
   have hle : (xs.filter q).length ≤ (xs.filter r).length := by
    clear ih ha
    induction xs with
    | nil => simp
    | cons y ys ih2 =>
      have h3 := ih2 (fun z hz => h z (by simp only [List.mem_cons] at hz ⊢; rcases hz with rfl | hz; exact .inl rfl; exact .inr (.inr hz)))
      have h4 := h y (by simp)
      simp only [List.filter_cons]
      cases hq : q y <;> cases hr : r y <;> simp_all <;> omega
   by_cases e : a = x
   ·subst e
    simp only [List.filter_cons, h1, h2]
    simp; omega
   ·have h3 := ih (by simpa [e] using ha) (fun z hz => h z (by simp [hz]))
    have h4 := h x (by simp)
    simp only [List.filter_cons]
    cases hq : q x <;> cases hr : r x <;> simp_all <;> omega
theorem ord_facts (ho : ordR n l = true) : Closed (pts n) (bt l) ∧ antiB (pts n) (bt l) = true := by
 unfold ordR at ho
 rw [Bool.and_eq_true] at ho
 exact ⟨(closedB_iff n l).1 ho.1, ho.2⟩
theorem stp_strict (ho : ordR n l = true) {i j k : Nat} (h1 : stp n l i j = true) (h2 : stp n l j k = true) : stp n l i k = true := by
 obtain ⟨hc, ha⟩ := ord_facts ho
 have e := fun a b => stp_eq n l a b
 rw [e] at h1 h2 ⊢
 simp only [Bool.and_eq_true, decide_eq_true_eq] at h1 h2 ⊢
 refine ⟨⟨⟨h1.1.1.1, h2.1.1.2⟩, hc.2 _ _ _ h1.1.1.1 h1.1.1.2 h2.1.1.2 h1.1.2 h2.1.2⟩, ?_⟩
 rintro rfl
 rcases Nat.lt_or_gt_of_ne h1.2 with h3 | h3
 ·have := antiB_no h1.1.1.2 h3 h2.1.2 h1.1.2
  rw [ha] at this; cases this
 ·have := antiB_no h1.1.1.1 h3 h1.1.2 h2.1.2
  rw [ha] at this; cases this
theorem stp_self (i : Nat) : stp n l i i = false := by rw [stp_eq]; simp
theorem cnt_lt (ho : ordR n l = true) {i j : Nat} (h : stp n l i j = true) : cntL n l i < cntL n l j :=
 filter_lt (a := i) (List.mem_range.2 (stp_lt h).1) (fun _ _ hx => stp_strict ho hx h) (stp_self i) h
theorem ends_cnt (ho : ordR n l = true) : ∀ {k j : Nat}, Ends n l k j → k + 1 ≤ cntL n l j
 | 0, j, h => by obtain ⟨i, h⟩ := ends_zero.1 h; have := cnt_lt ho h; omega
 | k + 1, j, h => by obtain ⟨i, h1, h2⟩ := ends_succ.1 h; have h3 := ends_cnt ho h1; have := cnt_lt ho h2; omega
end
def hg (f : Nat → Bool) : Nat → Nat
 | 0 => 0
 | m + 1 => if f 0 then 1 + hg (fun k => f (k + 1)) m else 0
theorem hg_iff : ∀ (m : Nat) (f : Nat → Bool) (_ : ∀ k, f (k + 1) = true → f k = true) (k : Nat), k < m → (k < hg f m ↔ f k = true)
 | 0, _, _, k, h => by omega
 | m + 1, f, hd, k, h => by
   unfold hg
   cases h0 : f 0 with
   | false =>
     have hno : ∀ k, f k = false := fun k => by
       induction k with
       | zero => exact h0
       | succ k ih => rw [Bool.eq_false_iff]; intro h2; rw [hd k h2] at ih; cases ih
     simp [hno]
   | true =>
     rw [if_pos rfl]
     cases k with
     | zero => simp [h0]; omega
     | succ k =>
       have := hg_iff m (fun k => f (k + 1)) (fun k h => hd (k + 1) h) k (by omega)
       constructor
       ·intro h2
        exact this.1 (by omega)
       ·intro h2
        have := this.2 h2
        omega
theorem hg_le : ∀ (m : Nat) (f : Nat → Bool), hg f m ≤ m
 | 0, _ => zL _
 | m + 1, f => by
   have := hg_le m (fun k => f (k + 1))
   unfold hg
   split <;> omega
def hgt (n : Int) (l : List Nat) (j : Nat) : Nat := hg (fun k => (ends (strL (cl n l)) (MM.belowN n) k).testBit j) (pts n)
section
variable {n : Int} {l : List Nat}
theorem hgt_iff (ho : ordR n l = true) {k j : Nat} : k < hgt n l j ↔ Ends n l k j := by
 by_cases h : k < pts n
 ·exact hg_iff (pts n) (fun k => (ends (strL (cl n l)) (MM.belowN n) k).testBit j) (fun k h => (ends_down (show Ends n l (k + 1) j from h) : Ends n l k j)) k h
 ·constructor
  ·intro h2
   have := hg_le (pts n) (fun k => (ends (strL (cl n l)) (MM.belowN n) k).testBit j)
   unfold hgt at h2
   omega
  ·intro h2
   have h3 := ends_cnt ho h2
   have h4 := cnt_le (n := n) (l := l) j
   omega
theorem hgt_from (ho : ordR n l = true) {m j : Nat} (h : m < hgt n l j) : ∃ i, stp n l i j = true ∧ m ≤ hgt n l i := by
 have h2 := (hgt_iff ho).1 h
 cases m with
 | zero => obtain ⟨i, h3⟩ := ends_zero.1 h2; exact ⟨i, h3, by omega⟩
 | succ m => obtain ⟨i, h3, h4⟩ := ends_succ.1 h2; exact ⟨i, h4, (hgt_iff ho).2 h3⟩
end
end
section
open Go.RowKit RM
open Go.Sort hiding Below ahead
structure RX (n : Int) (l : List Nat) (t i j : Nat) (d : Array Nat) : Prop where
 size : d.size = 64
 up : ∀ x, x < pts n → d[x]! ≤ hgt n l x
 low : ∀ x, x < pts n → min (hgt n l x) t ≤ d[x]!
 prog : ∀ x y, stp n l x y = true → (x < i ∨ (x = i ∧ y < j)) → min (hgt n l x) t + 1 ≤ d[y]!
section
variable {n : Int} {l : List Nat} {t i j : Nat} {d : Array Nat}
theorem RX.skip (h : RX n l t i j d) (hn : stp n l i j = true → d[i]! < d[j]!) : RX n l t i (j + 1) d :=
 ⟨h.size, h.up, h.low, fun x y hs hxy => by
  by_cases e : x = i ∧ y = j
  ·obtain ⟨rfl, rfl⟩ := e
   have h1 := hn hs
   have h2 := h.low x (stp_lt hs).1
   omega
  ·exact h.prog x y hs (by omega)⟩
theorem RX.row (h : RX n l t i (pts n) d) : RX n l t (i + 1) 0 d :=
 ⟨h.size, h.up, h.low, fun x y hs hxy => h.prog x y hs (by have := (stp_lt hs).2; omega)⟩
theorem RX.round (h : RX n l t (pts n) 0 d) (ho : ordR n l = true) : RX n l (t + 1) 0 0 d :=
 ⟨h.size, h.up, fun y hy => by
  by_cases e : hgt n l y = 0
  ·rw [e]; omega
  ·obtain ⟨x, h1, h2⟩ := hgt_from ho (j := y) (m := hgt n l y - 1) (by omega)
   have h3 := h.prog x y h1 (.inl (stp_lt h1).1)
   omega, fun x y _ h => by omega⟩
end
end
end Go.Proofs.YtnfndapgcpdcpaaGreatDoor
