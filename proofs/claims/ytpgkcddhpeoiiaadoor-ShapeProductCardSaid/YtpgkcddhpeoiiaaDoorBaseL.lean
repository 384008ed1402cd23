/-
  RelateTells. Conditions: the tables that the program reads.
-/
import Derived.Test.YtpgkcddhpeoiiaaDoorBaseT
import Derived.Test.YtpgkcddhpeoiiaaDoorBaseD
import Derived.Test.YtpgkcddhpeoiiaaDoorBaseR
namespace Go.Proofs.YtpgkcddhpeoiiaaDoor
open Go.RowKit RM

end Go.Proofs.YtpgkcddhpeoiiaaDoor

/-
  What between and Covers of layer 3's reference return. Conditions: 64 words below 2^64.
-/
namespace Go.Proofs.YtpgkcddhpeoiiaaDoor
open Go.RowKit RM

/-- Does another point stand between two, among the first k? -/
def btwT (S : Nat → Nat → Bool) (i j k : Nat) : Bool := (List.range k).any fun y => decide (y ≠ i) && decide (y ≠ j) && S i y && S y j
set_option maxRecDepth 8000 in
theorem btwT_next (S : Nat → Nat → Bool) (i j k : Nat) : btwT S i j (k + 1) = (btwT S i j k || (decide (k ≠ i) && decide (k ≠ j) && S i k && S k j)) := by
  unfold btwT
  rw [List.range_succ, List.any_append]
  simp
set_option maxRecDepth 8000 in
theorem btwT_yes {S : Nat → Nat → Bool} {i j k p : Nat} (hk : k < p) (h1 : k ≠ i) (h2 : k ≠ j) (h3 : S i k = true) (h4 : S k j = true) : btwT S i j p = true := by
  unfold btwT
  rw [List.any_eq_true]
  exact ⟨k, List.mem_range.2 hk, by simp [h1, h2, h3, h4]⟩
/-- Is j a cover of i? -/
def cvC (p : Nat) (S : Nat → Nat → Bool) (i j : Nat) : Bool := decide (i ≠ j) && S i j && !btwT S i j p
set_option maxRecDepth 8000 in
theorem cvRow_bit (n : Int) (l : List Nat) (i y : Nat) : (cvRow (strL (cl n l)) i).testBit y = (decide (i < pts n) && decide (y < pts n) && cvC (pts n) (bt l) i y) := by
  have hp := pts_le n
  have hL : RW (strL (cl n l)) := RW.strL (RW.mk _ _)
  have hb : ∀ a b, bt (strL (cl n l)) a b = (decide (a < pts n) && decide (b < pts n) && bt l a b && decide (a ≠ b)) := fun a b => by rw [bt_strL (show RW (cl n l) from RW.mk _ _), bt_cl]
  have hi0 : ∀ z, ((strL (cl n l)).getD i 0).testBit z = bt (strL (cl n l)) i z := fun _ => rfl
  have h1 : (cvRow (strL (cl n l)) i).testBit y = (bt (strL (cl n l)) i y && !(abv (strL (cl n l)) ((strL (cl n l)).getD i 0)).testBit y) := by
    unfold cvRow
    rw [Nat.testBit_and, hi0, show (18446744073709551615 : Nat) = 2 ^ 64 - 1 from rfl, show 2 ^ 64 - 1 - abv (strL (cl n l)) ((strL (cl n l)).getD i 0) = 2 ^ 64 - (abv (strL (cl n l)) ((strL (cl n l)).getD i 0) + 1) by omega, Nat.testBit_two_pow_sub_succ (abv_lt hL _)]
    by_cases hy : y < 64
    · simp [hy]
    · have : bt (strL (cl n l)) i y = false := by rw [hb]; simp; omega
      rw [this]; rfl
  rw [h1, Bool.eq_iff_iff]
  simp only [Bool.and_eq_true, Bool.not_eq_true', decide_eq_true_eq]
  rw [hb]
  unfold cvC
  simp only [Bool.and_eq_true, Bool.not_eq_true', decide_eq_true_eq]
  have h2 : y < pts n → i < pts n → ((abv (strL (cl n l)) ((strL (cl n l)).getD i 0)).testBit y = true ↔ btwT (bt l) i y (pts n) = true) := fun hy hi => by
    rw [abv_bit]
    unfold btwT
    rw [List.any_eq_true]
    constructor
    · rintro ⟨k, hk, h3, h4⟩
      rw [hi0, hb] at h3
      rw [hb] at h4
      simp only [Bool.and_eq_true, decide_eq_true_eq] at h3 h4
      exact ⟨k, List.mem_range.2 h3.1.1.2, by simp [h3.1.2, h4.1.2, h4.2, Ne.symm h3.2]⟩
    · rintro ⟨k, hk, h3⟩
      simp only [Bool.and_eq_true, decide_eq_true_eq] at h3
      have hk' := List.mem_range.1 hk
      refine ⟨k, by omega, ?_, ?_⟩
      · rw [hi0, hb]; simp [hi, hk', h3.1.2, Ne.symm h3.1.1.1]
      · rw [hb]; simp [hk', hy, h3.2, h3.1.1.2]
  constructor
  · rintro ⟨⟨⟨⟨a1, a2⟩, a3⟩, a4⟩, a5⟩
    refine ⟨⟨a1, a2⟩, ⟨a4, a3⟩, ?_⟩
    rw [Bool.eq_false_iff] at a5 ⊢
    exact fun h => a5 ((h2 a2 a1).2 h)
  · rintro ⟨⟨a1, a2⟩, ⟨a4, a3⟩, a5⟩
    refine ⟨⟨⟨⟨a1, a2⟩, a3⟩, a4⟩, ?_⟩
    rw [Bool.eq_false_iff] at a5 ⊢
    exact fun h => a5 ((h2 a2 a1).1 h)
set_option maxRecDepth 8000 in
theorem filter_low {p : Nat} (hp : p ≤ 64) (f : Nat → Bool) (h : ∀ y, p ≤ y → f y = false) : (List.range 64).filter f = (List.range p).filter f := by
  obtain ⟨q, hq⟩ : ∃ q, 64 = p + q := ⟨64 - p, by omega⟩
  rw [hq]
  clear hq hp
  induction q with
  | zero => rfl
  | succ q ih => rw [← Nat.add_assoc, List.range_succ, List.filter_append, ih]; simp [h (p + q) (by omega)]
set_option maxRecDepth 8000 in
theorem els_cv (n : Int) (l : List Nat) (i : Nat) (hi : i < pts n) : MM.els (cvRow (strL (cl n l)) i) = (List.range (pts n)).filter (cvC (pts n) (bt l) i) := by
  unfold MM.els
  rw [filter_low (pts_le n) _ (fun y hy => by rw [cvRow_bit]; simp; omega)]
  refine List.filter_congr fun y hy => ?_
  rw [cvRow_bit, decide_eq_true hi, decide_eq_true (List.mem_range.1 hy)]; rfl
set_option maxRecDepth 8000 in
theorem els_no (n : Int) (l : List Nat) (i : Nat) (hi : pts n ≤ i) : MM.els (cvRow (strL (cl n l)) i) = [] := by
  unfold MM.els
  rw [List.filter_eq_nil_iff]
  intro y _
  rw [cvRow_bit]
  simp; omega
set_option maxRecDepth 8000 in
theorem cvs_all (n : Int) (l : List Nat) : cvs (strL (cl n l)) 64 = cvs (strL (cl n l)) (pts n) := by
  obtain ⟨q, hq⟩ : ∃ q, 64 = pts n + q := ⟨64 - pts n, by have := pts_le n; omega⟩
  rw [hq]
  clear hq
  induction q with
  | zero => rfl
  | succ q ih => rw [← Nat.add_assoc]; simp only [cvs]; rw [els_no n l _ (by omega), ih]; simp [cvp]
end Go.Proofs.YtpgkcddhpeoiiaaDoor

/-
  What Covers of layer 3's reference returns. Conditions: 64 words below 2^64.
-/
namespace Go.Proofs.YtpgkcddhpeoiiaaDoor
open Go.RowKit RM

/-- The covers of the points below i, and those of i among the first j. -/
def cvZ (n : Int) (l : List Nat) (i j : Nat) : List (Int × Int) := cvs (strL (cl n l)) i ++ cvp i ((List.range j).filter (cvC (pts n) (bt l) i))
set_option maxRecDepth 8000 in
theorem cvZ_zero (n : Int) (l : List Nat) (i : Nat) : cvZ n l i 0 = cvs (strL (cl n l)) i := by simp [cvZ, cvp]
set_option maxRecDepth 8000 in
theorem cvZ_end (n : Int) (l : List Nat) (i : Nat) (hi : i < pts n) : cvZ n l i (pts n) = cvs (strL (cl n l)) (i + 1) := by
  unfold cvZ
  rw [← els_cv n l i hi]; rfl
set_option maxRecDepth 8000 in
theorem cvZ_no {n : Int} {l : List Nat} {i j : Nat} (h : cvC (pts n) (bt l) i j = false) : cvZ n l i (j + 1) = cvZ n l i j := by
  unfold cvZ
  rw [List.range_succ, List.filter_append]
  simp [h]
set_option maxRecDepth 8000 in
theorem cvZ_yes {n : Int} {l : List Nat} {i j : Nat} (h : cvC (pts n) (bt l) i j = true) : cvZ n l i (j + 1) = cvZ n l i j ++ [((i : Int), (j : Int))] := by
  unfold cvZ
  rw [List.range_succ, List.filter_append]
  simp [h, cvp]
set_option maxRecDepth 8000 in
theorem cvZ_len (n : Int) (l : List Nat) (i j : Nat) (hi : i ≤ 64) (hj : j ≤ 64) : (cvZ n l i j).length ≤ 8192 := by
  have h1 := cvs_length (strL (cl n l)) i
  have h2 := List.length_filter_le (cvC (pts n) (bt l) i) (List.range j)
  unfold cvZ cvp
  rw [List.length_append, List.length_map]
  rw [List.length_range] at h2
  omega
end Go.Proofs.YtpgkcddhpeoiiaaDoor

/-
  How many steps one can go up, in plain Lean: by sets of points, and by how far each point is from below. Conditions: none.
-/
namespace Go.Proofs.YtpgkcddhpeoiiaaDoor
open Go.RowKit RM

/-- A step up. -/
def stp (n : Int) (l : List Nat) (i j : Nat) : Bool := bt (strL (cl n l)) i j
set_option maxRecDepth 8000 in
theorem stp_eq (n : Int) (l : List Nat) (i j : Nat) : stp n l i j = (decide (i < pts n) && decide (j < pts n) && bt l i j && decide (i ≠ j)) := by
  unfold stp
  rw [bt_strL (show RW (cl n l) from RW.mk _ _), bt_cl]
/-- j stands at the end of k + 1 steps. -/
def Ends (n : Int) (l : List Nat) (k j : Nat) : Prop := (ends (strL (cl n l)) (MM.belowN n) k).testBit j = true
section
variable {n : Int} {l : List Nat}
set_option maxRecDepth 8000 in
theorem stp_lt {i j : Nat} (h : stp n l i j = true) : i < pts n ∧ j < pts n := by
  rw [stp_eq] at h
  simp only [Bool.and_eq_true, decide_eq_true_eq] at h
  exact ⟨h.1.1.1, h.1.1.2⟩
set_option maxRecDepth 8000 in
theorem below_pts (i : Nat) : (MM.belowN n).testBit i = decide (i < pts n) := by
  unfold MM.belowN
  rw [MM.ofP_bit]
  unfold pts
  rw [Bool.eq_iff_iff]
  simp only [decide_eq_true_eq, Bool.and_eq_true]
  split
  · constructor <;> intro h <;> omega
  · split <;> (constructor <;> intro h <;> omega)
set_option maxRecDepth 8000 in
theorem ends_zero {j : Nat} : Ends n l 0 j ↔ ∃ i, stp n l i j = true := by
  have hp := pts_le n
  unfold Ends
  simp only [ends]
  rw [abv_bit]
  constructor
  · rintro ⟨i, _, _, h⟩; exact ⟨i, h⟩
  · rintro ⟨i, h⟩
    have := stp_lt h
    exact ⟨i, by omega, by rw [below_pts]; exact decide_eq_true this.1, h⟩
set_option maxRecDepth 8000 in
theorem ends_succ {k j : Nat} : Ends n l (k + 1) j ↔ ∃ i, Ends n l k i ∧ stp n l i j = true := by
  have hp := pts_le n
  unfold Ends
  simp only [ends]
  rw [abv_bit]
  constructor
  · rintro ⟨i, _, h1, h⟩; exact ⟨i, h1, h⟩
  · rintro ⟨i, h1, h⟩
    have := stp_lt h
    exact ⟨i, by omega, h1, h⟩
set_option maxRecDepth 8000 in
theorem ends_pt {k j : Nat} (h : Ends n l k j) : j < pts n := by
  cases k with
  | zero => obtain ⟨i, h⟩ := ends_zero.1 h; exact (stp_lt h).2
  | succ k => obtain ⟨i, _, h⟩ := ends_succ.1 h; exact (stp_lt h).2
set_option maxRecDepth 8000 in
theorem ends_down : ∀ {k j : Nat}, Ends n l (k + 1) j → Ends n l k j
  | 0, j, h => by obtain ⟨i, _, h2⟩ := ends_succ.1 h; exact ends_zero.2 ⟨i, h2⟩
  | k + 1, j, h => by obtain ⟨i, h1, h2⟩ := ends_succ.1 h; exact ends_succ.2 ⟨i, ends_down h1, h2⟩
set_option maxRecDepth 8000 in
theorem ends_le {k m j : Nat} (h : Ends n l m j) (hk : k ≤ m) : Ends n l k j := by
  induction m with
  | zero => obtain rfl : k = 0 := by omega
            exact h
  | succ m ih =>
    by_cases e : k = m + 1
    · subst e; exact h
    · exact ih (ends_down h) (by omega)
/-- How many points are below j. -/
def cnt (n : Int) (l : List Nat) (j : Nat) : Nat := ((List.range (pts n)).filter fun x => stp n l x j).length
set_option maxRecDepth 8000 in
theorem cnt_le (j : Nat) : cnt n l j ≤ pts n := by
  have := List.length_filter_le (fun x => stp n l x j) (List.range (pts n))
  simpa [cnt] using this
set_option maxRecDepth 8000 in
theorem filter_lt {xs : List Nat} {q r : Nat → Bool} {a : Nat} (ha : a ∈ xs) (h : ∀ x, x ∈ xs → q x = true → r x = true) (h1 : q a = false) (h2 : r a = true) : (xs.filter q).length < (xs.filter r).length := by
  induction xs with
  | nil => cases ha
  | cons x xs ih =>
    have hle : (xs.filter q).length ≤ (xs.filter r).length := by
      clear ih ha
      induction xs with
      | nil => simp
      | cons y ys ih2 =>
        have h3 := ih2 (fun z hz => h z (by simp only [List.mem_cons] at hz ⊢; rcases hz with rfl | hz; exact .inl rfl; exact .inr (.inr hz)))
        have h4 := h y (by simp)
        simp only [List.filter_cons]
        cases hq : q y <;> cases hr : r y <;> simp_all <;> omega
    by_cases e : a = x
    · subst e
      simp only [List.filter_cons, h1, h2]
      simp; omega
    · have h3 := ih (by simpa [e] using ha) (fun z hz => h z (by simp [hz]))
      have h4 := h x (by simp)
      simp only [List.filter_cons]
      cases hq : q x <;> cases hr : r x <;> simp_all <;> omega
set_option maxRecDepth 8000 in
theorem ord_facts (ho : ordR n l = true) : Closed (pts n) (bt l) ∧ antiB (pts n) (bt l) = true := by
  unfold ordR at ho
  rw [Bool.and_eq_true] at ho
  exact ⟨(closedB_iff n l).1 ho.1, ho.2⟩
set_option maxRecDepth 8000 in
theorem stp_strict (ho : ordR n l = true) {i j k : Nat} (h1 : stp n l i j = true) (h2 : stp n l j k = true) : stp n l i k = true := by
  obtain ⟨hc, ha⟩ := ord_facts ho
  have e := fun a b => stp_eq n l a b
  rw [e] at h1 h2 ⊢
  simp only [Bool.and_eq_true, decide_eq_true_eq] at h1 h2 ⊢
  refine ⟨⟨⟨h1.1.1.1, h2.1.1.2⟩, hc.2 _ _ _ h1.1.1.1 h1.1.1.2 h2.1.1.2 h1.1.2 h2.1.2⟩, ?_⟩
  rintro rfl
  rcases Nat.lt_or_gt_of_ne h1.2 with h3 | h3
  · have := antiB_no h1.1.1.2 h3 h2.1.2 h1.1.2
    rw [ha] at this; cases this
  · have := antiB_no h1.1.1.1 h3 h1.1.2 h2.1.2
    rw [ha] at this; cases this
set_option maxRecDepth 8000 in
theorem stp_self (i : Nat) : stp n l i i = false := by rw [stp_eq]; simp
set_option maxRecDepth 8000 in
theorem cnt_lt (ho : ordR n l = true) {i j : Nat} (h : stp n l i j = true) : cnt n l i < cnt n l j :=
  filter_lt (a := i) (List.mem_range.2 (stp_lt h).1) (fun _ _ hx => stp_strict ho hx h) (stp_self i) h
set_option maxRecDepth 8000 in
theorem ends_cnt (ho : ordR n l = true) : ∀ {k j : Nat}, Ends n l k j → k + 1 ≤ cnt n l j
  | 0, j, h => by obtain ⟨i, h⟩ := ends_zero.1 h; have := cnt_lt ho h; omega
  | k + 1, j, h => by obtain ⟨i, h1, h2⟩ := ends_succ.1 h; have h3 := ends_cnt ho h1; have := cnt_lt ho h2; omega
end
/-- How far a predicate that goes down holds. -/
def hg (f : Nat → Bool) : Nat → Nat
  | 0 => 0
  | m + 1 => if f 0 then 1 + hg (fun k => f (k + 1)) m else 0
set_option maxRecDepth 8000 in
theorem hg_iff : ∀ (m : Nat) (f : Nat → Bool) (_ : ∀ k, f (k + 1) = true → f k = true) (k : Nat), k < m → (k < hg f m ↔ f k = true)
  | 0, _, _, k, h => by omega
  | m + 1, f, hd, k, h => by
    unfold hg
    cases h0 : f 0 with
    | false =>
      have hno : ∀ k, f k = false := fun k => by
        induction k with
        | zero => exact h0
        | succ k ih => rw [Bool.eq_false_iff]; intro h2; rw [hd k h2] at ih; cases ih
      simp [hno]
    | true =>
      rw [if_pos rfl]
      cases k with
      | zero => simp [h0]; omega
      | succ k =>
        have := hg_iff m (fun k => f (k + 1)) (fun k h => hd (k + 1) h) k (by omega)
        constructor
        · intro h2
          exact this.1 (by omega)
        · intro h2
          have := this.2 h2
          omega
set_option maxRecDepth 8000 in
theorem hg_le : ∀ (m : Nat) (f : Nat → Bool), hg f m ≤ m
  | 0, _ => Nat.le_refl _
  | m + 1, f => by
    have := hg_le m (fun k => f (k + 1))
    unfold hg
    split <;> omega
/-- How many steps lead up to j. -/
def hgt (n : Int) (l : List Nat) (j : Nat) : Nat := hg (fun k => (ends (strL (cl n l)) (MM.belowN n) k).testBit j) (pts n)
/-- How many steps one can go up. -/
def top (n : Int) (l : List Nat) : Nat := hg (fun k => ends (strL (cl n l)) (MM.belowN n) k != 0) (pts n)
section
variable {n : Int} {l : List Nat}
set_option maxRecDepth 8000 in
theorem hgt_iff (ho : ordR n l = true) {k j : Nat} : k < hgt n l j ↔ Ends n l k j := by
  by_cases h : k < pts n
  · exact hg_iff (pts n) (fun k => (ends (strL (cl n l)) (MM.belowN n) k).testBit j) (fun k h => (ends_down (show Ends n l (k + 1) j from h) : Ends n l k j)) k h
  · constructor
    · intro h2
      have := hg_le (pts n) (fun k => (ends (strL (cl n l)) (MM.belowN n) k).testBit j)
      unfold hgt at h2
      omega
    · intro h2
      have h3 := ends_cnt ho h2
      have h4 := cnt_le (n := n) (l := l) j
      omega
set_option maxRecDepth 8000 in
theorem hgt_step (ho : ordR n l = true) {i j : Nat} (h : stp n l i j = true) : hgt n l i + 1 ≤ hgt n l j := by
  have h2 : Ends n l (hgt n l i) j := by
    cases hi : hgt n l i with
    | zero => exact ends_zero.2 ⟨i, h⟩
    | succ m => exact ends_succ.2 ⟨i, (hgt_iff ho).1 (by omega), h⟩
  exact (hgt_iff ho).2 h2
set_option maxRecDepth 8000 in
theorem hgt_from (ho : ordR n l = true) {m j : Nat} (h : m < hgt n l j) : ∃ i, stp n l i j = true ∧ m ≤ hgt n l i := by
  have h2 := (hgt_iff ho).1 h
  cases m with
  | zero => obtain ⟨i, h3⟩ := ends_zero.1 h2; exact ⟨i, h3, by omega⟩
  | succ m => obtain ⟨i, h3, h4⟩ := ends_succ.1 h2; exact ⟨i, h4, (hgt_iff ho).2 h3⟩
set_option maxRecDepth 8000 in
theorem hgt_le (j : Nat) : hgt n l j ≤ pts n := hg_le _ _
set_option maxRecDepth 8000 in
theorem nz_iff {k : Nat} : ends (strL (cl n l)) (MM.belowN n) k ≠ 0 ↔ ∃ j, Ends n l k j := by
  have hL : RW (strL (cl n l)) := RW.strL (RW.mk _ _)
  constructor
  · intro h
    apply Classical.byContradiction
    intro h2
    apply h
    exact MM.ext64 (ends_lt hL _ _) (by omega) fun y _ => by
      rw [Nat.zero_testBit, Bool.eq_false_iff]
      exact fun h3 => h2 ⟨y, h3⟩
  · rintro ⟨j, h⟩ h2
    unfold Ends at h
    rw [h2, Nat.zero_testBit] at h
    cases h
set_option maxRecDepth 8000 in
theorem top_iff (ho : ordR n l = true) {k : Nat} : k < top n l ↔ ends (strL (cl n l)) (MM.belowN n) k ≠ 0 := by
  by_cases h : k < pts n
  · have := hg_iff (pts n) (fun k => ends (strL (cl n l)) (MM.belowN n) k != 0) (fun k h => by
      rw [bne_iff_ne] at h ⊢
      obtain ⟨j, h2⟩ := nz_iff.1 h
      exact nz_iff.2 ⟨j, ends_down h2⟩) k h
    rw [bne_iff_ne] at this
    exact this
  · constructor
    · intro h2
      have := hg_le (pts n) (fun k => ends (strL (cl n l)) (MM.belowN n) k != 0)
      unfold top at h2
      omega
    · intro h2
      obtain ⟨j, h2⟩ := nz_iff.1 h2
      have h3 := ends_cnt ho h2
      have h4 := cnt_le (n := n) (l := l) j
      omega
set_option maxRecDepth 8000 in
theorem top_ge (ho : ordR n l = true) (j : Nat) : hgt n l j ≤ top n l := by
  apply Decidable.byContradiction
  intro h
  have h2 := (hgt_iff ho).1 (show top n l < hgt n l j by omega)
  have := (top_iff ho).2 (nz_iff.2 ⟨j, h2⟩)
  omega
set_option maxRecDepth 8000 in
theorem top_at (ho : ordR n l = true) {k : Nat} (h : top n l = k + 1) : ∃ j, j < pts n ∧ hgt n l j = k + 1 := by
  obtain ⟨j, h2⟩ := nz_iff.1 ((top_iff ho).1 (show k < top n l by omega))
  have h3 := (hgt_iff ho).2 h2
  have h4 := top_ge ho j
  exact ⟨j, ends_pt h2, by omega⟩
set_option maxRecDepth 8000 in
/-- What relate.Long tells. -/
theorem rlong_top (ho : ordR n l = true) (hl : RW l) (kk : Nat) (hS : SortTo kk) (hk : pts n ≤ kk) (w : World) (hT : Tab w) :
    Calls Tryd.prog 45 #[.agg (rv n l)] w fun e w' => e = .returned (.tuple #[.int .i64 (top n l : Int), .bool true]) ∧ Below w.heap.size w w' := by
  have hp := pts_le n
  have ht : top n l ≤ pts n := hg_le _ _
  refine rlong_yes kk hS n l hl hk ho (top n l) (by omega) ?_ (fun j hj => (top_iff ho).1 hj) w hT
  apply Decidable.byContradiction
  intro h
  have := (top_iff ho).2 h
  omega
end
end Go.Proofs.YtpgkcddhpeoiiaaDoor

/-
  What Long of layer 3's reference returns. Conditions: 64 words below 2^64.
-/
namespace Go.Proofs.YtpgkcddhpeoiiaaDoor
open Go.RowKit RM
open Go.Sort hiding Below ahead

def eI (x : Nat) : Value := .int .i64 (x : Int)
set_option maxRecDepth 8000 in
theorem hI_set {w : World} {blk off : Nat} {d : Array Nat} (h : Holds eI w blk off d) (i x : Nat) (hi : i < d.size) : Holds eI (w.setCell ⟨blk, off + i, none⟩ (.int .i64 (x : Int))) blk off (d.setIfInBounds i x) := by
  intro j hj
  have hj2 : j < d.size := by simpa using hj
  obtain ⟨h1, h2⟩ := h j hj2
  obtain ⟨h3, _⟩ := h i hi
  constructor
  · by_cases e : j = i
    · subst e
      rw [World.cell?_setCell_same' _ _ _ (by rw [h1]; rfl), getElem!_set_same d j x hi]; rfl
    · rw [World.cell?_setCell_other (h := show (⟨blk, off + i, none⟩ : Addr) ≠ ⟨blk, off + j, none⟩ from fun h => e (by injection h with _ h _; omega)), getElem!_set_other d i j x e, h1]
  · rw [World.frozen?_setCell]; exact h2
set_option maxRecDepth 8000 in
theorem hI_below {w w' : World} {blk off B : Nat} {d : Array Nat} (h : Holds eI w blk off d) (hb : Below B w w') (hB : blk < B) : Holds eI w' blk off d :=
  fun j hj => ⟨(hb.cell (p := ⟨blk, off + j, none⟩) hB).trans (h j hj).1, (hb.frozen (p := ⟨blk, off + j, none⟩) hB).trans (h j hj).2⟩
set_option maxRecDepth 8000 in
theorem far_at {w : World} {g : Nat} {d : Array Nat} (h : Holds eI w g 0 d) (i : Nat) (hi : i < d.size) : w.cell? ⟨g, i, none⟩ = some (.int .i64 ((d[i]! : Nat) : Int)) ∧ w.frozen? ⟨g, i, none⟩ = false := by
  have := h i hi
  rw [Nat.zero_add] at this
  exact this
/-- What stands while the points' heights are made better: round t, at the pair (i, j). -/
structure RX (n : Int) (l : List Nat) (t i j : Nat) (d : Array Nat) : Prop where
  size : d.size = 64
  up : ∀ x, x < pts n → d[x]! ≤ hgt n l x
  low : ∀ x, x < pts n → min (hgt n l x) t ≤ d[x]!
  prog : ∀ x y, stp n l x y = true → (x < i ∨ (x = i ∧ y < j)) → min (hgt n l x) t + 1 ≤ d[y]!
section
variable {n : Int} {l : List Nat} {t i j : Nat} {d : Array Nat}
set_option maxRecDepth 8000 in
theorem RX.begin : RX n l 0 0 0 (Array.replicate 64 0) := ⟨by simp, fun x hx => by have := pts_le n; rw [getElem!_pos _ x (by simp; omega)]; simp, fun x _ => by simp, fun x y _ h => by omega⟩
set_option maxRecDepth 8000 in
theorem RX.skip (h : RX n l t i j d) (hn : stp n l i j = true → d[i]! < d[j]!) : RX n l t i (j + 1) d :=
  ⟨h.size, h.up, h.low, fun x y hs hxy => by
    by_cases e : x = i ∧ y = j
    · obtain ⟨rfl, rfl⟩ := e
      have h1 := hn hs
      have h2 := h.low x (stp_lt hs).1
      omega
    · exact h.prog x y hs (by omega)⟩
set_option maxRecDepth 8000 in
theorem RX.better (h : RX n l t i j d) (ho : ordR n l = true) (hs : stp n l i j = true) (hle : d[j]! ≤ d[i]!) : RX n l t i (j + 1) (d.setIfInBounds j (d[i]! + 1)) := by
  have hp := pts_le n
  obtain ⟨hi, hj⟩ := stp_lt hs
  have hjs : j < d.size := by rw [h.size]; omega
  have hge : ∀ x, d[x]! ≤ (d.setIfInBounds j (d[i]! + 1))[x]! := fun x => by
    by_cases e : x = j
    · rw [e, getElem!_set_same _ _ _ hjs]; omega
    · rw [getElem!_set_other _ _ _ _ e]; exact Nat.le_refl _
  refine ⟨by simpa using h.size, fun x hx => ?_, fun x hx => Nat.le_trans (h.low x hx) (hge x), fun x y hs2 hxy => ?_⟩
  · by_cases e : x = j
    · rw [e, getElem!_set_same _ _ _ hjs]
      have h1 := h.up i hi
      have h2 := hgt_step ho hs
      omega
    · rw [getElem!_set_other _ _ _ _ e]; exact h.up x hx
  · by_cases e : x = i ∧ y = j
    · rw [e.1, e.2, getElem!_set_same _ _ _ hjs]
      have h2 := h.low i hi
      omega
    · exact Nat.le_trans (h.prog x y hs2 (by omega)) (hge y)
set_option maxRecDepth 8000 in
theorem RX.row (h : RX n l t i (pts n) d) : RX n l t (i + 1) 0 d :=
  ⟨h.size, h.up, h.low, fun x y hs hxy => h.prog x y hs (by have := (stp_lt hs).2; omega)⟩
set_option maxRecDepth 8000 in
theorem RX.round (h : RX n l t (pts n) 0 d) (ho : ordR n l = true) : RX n l (t + 1) 0 0 d :=
  ⟨h.size, h.up, fun y hy => by
    by_cases e : hgt n l y = 0
    · rw [e]; omega
    · obtain ⟨x, h1, h2⟩ := hgt_from ho (j := y) (m := hgt n l y - 1) (by omega)
      have h3 := h.prog x y h1 (.inl (stp_lt h1).1)
      omega, fun x y _ h => by omega⟩
set_option maxRecDepth 8000 in
theorem RX.end_ (h : RX n l (pts n) 0 0 d) (x : Nat) (hx : x < pts n) : d[x]! = hgt n l x := by
  have h1 := h.up x hx
  have h2 := h.low x hx
  have h3 := hgt_le (n := n) (l := l) x
  omega
end
end Go.Proofs.YtpgkcddhpeoiiaaDoor
