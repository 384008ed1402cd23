/-
  How many different closures of single bits there are: plain mathematics. Conditions: none.
-/
import Derived.Test.YtpgkcddhpeoiiaaDoorGridP
namespace Go.Proofs.YtpgkcddhpeoiiaaDoor
open RM

/-- The different values but 0 of a function, in the order in which they come. -/
def metF (f : Nat → Nat) : Nat → List Nat
  | 0 => []
  | k + 1 => if f k == 0 || (metF f k).any (fun x => x == f k) then metF f k else metF f k ++ [f k]
theorem metF_old {f : Nat → Nat} {k : Nat} (h : (f k == 0 || (metF f k).any (fun x => x == f k)) = true) : metF f (k + 1) = metF f k := by
  show (if _ then _ else _) = _
  rw [if_pos h]
theorem metF_new {f : Nat → Nat} {k : Nat} (h : (f k == 0 || (metF f k).any (fun x => x == f k)) = false) : metF f (k + 1) = metF f k ++ [f k] := by
  show (if _ then _ else _) = _
  rw [if_neg (by rw [h]; simp)]
theorem metF_mem (f : Nat → Nat) : ∀ (k x : Nat), x ∈ metF f k ↔ x ≠ 0 ∧ ∃ j, j < k ∧ f j = x
  | 0, x => by simp [metF]
  | k + 1, x => by
    have ih := metF_mem f k
    cases h : (f k == 0 || (metF f k).any (fun x => x == f k)) with
    | true =>
      rw [metF_old h, ih]
      constructor
      · rintro ⟨h1, j, h2, h3⟩; exact ⟨h1, j, by omega, h3⟩
      · rintro ⟨h1, j, h2, h3⟩
        refine ⟨h1, ?_⟩
        rcases Nat.lt_or_ge j k with h4 | h4
        · exact ⟨j, h4, h3⟩
        · have e : j = k := by omega
          subst e
          rw [Bool.or_eq_true, beq_iff_eq, List.any_eq_true] at h
          rcases h with h | ⟨y, h5, h6⟩
          · exact absurd (h3.symm.trans h) h1
          · have h7 := ((ih y).1 h5).2
            have h8 : y = f j := by simpa using h6
            rw [h8, h3] at h7
            exact h7
    | false =>
      rw [metF_new h, List.mem_append, List.mem_singleton, ih]
      rw [Bool.or_eq_false_iff] at h
      have h0 : f k ≠ 0 := by simpa using h.1
      constructor
      · rintro (⟨h1, j, h2, h3⟩ | h1)
        · exact ⟨h1, j, by omega, h3⟩
        · exact ⟨by rw [h1]; exact h0, k, by omega, h1.symm⟩
      · rintro ⟨h1, j, h2, h3⟩
        rcases Nat.lt_or_ge j k with h4 | h4
        · exact .inl ⟨h1, j, h4, h3⟩
        · have e : j = k := by omega
          subst e
          exact .inr h3.symm
/-- It comes for the first time. -/
def newB (f : Nat → Nat) (i : Nat) : Bool := f i != 0 && (List.range i).all fun j => f j != f i
theorem newB_iff (f : Nat → Nat) (k : Nat) : newB f k = !(f k == 0 || (metF f k).any (fun x => x == f k)) := by
  rw [Bool.eq_iff_iff]
  unfold newB
  rw [Bool.not_eq_true', Bool.or_eq_false_iff, Bool.and_eq_true, List.all_eq_true, List.any_eq_false]
  constructor
  · rintro ⟨h1, h2⟩
    refine ⟨by simpa using h1, fun x hx => ?_⟩
    obtain ⟨_, j, h3, h4⟩ := (metF_mem f k x).1 hx
    have := h2 j (List.mem_range.2 h3)
    rw [h4] at this
    simpa using this
  · rintro ⟨h1, h2⟩
    refine ⟨by simpa using h1, fun j hj => ?_⟩
    have h3 : f k ≠ 0 := by simpa using h1
    cases h4 : (f j != f k) with
    | true => rfl
    | false =>
      have h5 : f j = f k := by simpa using h4
      have := h2 (f k) ((metF_mem f k (f k)).2 ⟨h3, j, List.mem_range.1 hj, h5⟩)
      simp at this
theorem metF_len (f : Nat → Nat) : ∀ k, (metF f k).length = ((List.range k).filter (newB f)).length
  | 0 => rfl
  | k + 1 => by
    have ih := metF_len f k
    rw [List.range_succ, List.filter_append, List.length_append]
    cases h : (f k == 0 || (metF f k).any (fun x => x == f k)) with
    | true =>
      have hn : newB f k = false := by rw [newB_iff, h]; rfl
      rw [metF_old h, ih]
      simp [hn]
    | false =>
      have hn : newB f k = true := by rw [newB_iff, h]; rfl
      rw [metF_new h, List.length_append, ih]
      simp [hn]
theorem metF_le (f : Nat → Nat) (k : Nat) : (metF f k).length ≤ k := by
  rw [metF_len]
  have := List.length_filter_le (newB f) (List.range k)
  simpa using this
theorem filter_shift (a n : Nat) (P : Nat → Bool) : (((List.range n).map fun i => a + i).filter P).length = ((List.range n).filter fun i => P (a + i)).length := by
  rw [List.filter_map, List.length_map]; rfl
theorem square_count (A B : Nat → Bool) : ∀ k, ((List.range (8 * k)).filter fun i => A (i / 8) && B (i % 8)).length = ((List.range k).filter A).length * ((List.range 8).filter B).length
  | 0 => by simp
  | k + 1 => by
    have ih := square_count A B k
    rw [show 8 * (k + 1) = 8 * k + 8 by omega, List.range_add, List.filter_append, List.length_append, ih, filter_shift, List.range_succ (n := k), List.filter_append, List.length_append, Nat.add_mul]
    congr 1
    cases h : A k with
    | true =>
      have e : (List.range 8).filter (fun i => A ((8 * k + i) / 8) && B ((8 * k + i) % 8)) = (List.range 8).filter B := List.filter_congr fun i hi => by
        have := List.mem_range.1 hi
        rw [show (8 * k + i) / 8 = k by omega, show (8 * k + i) % 8 = i by omega, h]; rfl
      rw [e]
      simp [h]
    | false =>
      have e : (List.range 8).filter (fun i => A ((8 * k + i) / 8) && B ((8 * k + i) % 8)) = [] := by
        rw [List.filter_eq_nil_iff]
        intro i hi
        have := List.mem_range.1 hi
        rw [show (8 * k + i) / 8 = k by omega, h]; simp
      rw [e]
      simp [h]
theorem count_low (A : Nat → Bool) {p : Nat} (hp : p ≤ 8) : ((List.range 8).filter fun o => decide (o < p) && A o).length = ((List.range p).filter A).length := by
  have e : List.range 8 = List.range p ++ (List.range (8 - p)).map fun i => p + i := by
    rw [← List.range_add, show p + (8 - p) = 8 by omega]
  have h1 : (List.range p).filter (fun o => decide (o < p) && A o) = (List.range p).filter A := List.filter_congr fun o ho => by
    have := List.mem_range.1 ho
    simp [this]
  have h2 : ((List.range (8 - p)).map fun i => p + i).filter (fun o => decide (o < p) && A o) = [] := by
    rw [List.filter_eq_nil_iff]
    intro i hi
    obtain ⟨j, _, rfl⟩ := List.mem_map.1 hi
    simp
    omega
  rw [e, List.filter_append, List.length_append, h1, h2]; rfl
/-- A single bit's closure. -/
theorem one_bit (i o x : Nat) (hi : i < 64) : ob (MM.ofN [(i : Int)]) o x = decide (8 * o + x = i) := by
  unfold ob
  rw [MM.ofN_bit, Bool.eq_iff_iff]
  simp
  omega
theorem cone {p : Nat} {S : Nat → Nat → Bool} (hp : p ≤ 8) {i a b : Nat} (hi : i < 64) (ha : a < p) (hb : b < p) : ob (clW p S (MM.ofN [(i : Int)])) a b = true ↔ i / 8 < p ∧ i % 8 < p ∧ S a (i / 8) = true ∧ S b (i % 8) = true := by
  rw [clW_iff hp ha hb]
  constructor
  · rintro ⟨q, y, hq, hy, h1, h2, h3⟩
    rw [one_bit i q y hi, decide_eq_true_eq] at h1
    subst h1
    rw [show (8 * q + y) / 8 = q by omega, show (8 * q + y) % 8 = y by omega]
    exact ⟨hq, hy, h2, h3⟩
  · rintro ⟨h1, h2, h3, h4⟩
    exact ⟨i / 8, i % 8, h1, h2, by rw [one_bit i _ _ hi, decide_eq_true_eq]; omega, h3, h4⟩
theorem cone_zero {p : Nat} {S : Nat → Nat → Bool} (hp : p ≤ 8) (hS : Closed p S) {i : Nat} (hi : i < 64) : clW p S (MM.ofN [(i : Int)]) ≠ 0 ↔ i / 8 < p ∧ i % 8 < p := by
  constructor
  · intro h
    apply Decidable.byContradiction
    intro hn
    apply h
    refine ob_ext (clW_lt _ _ _) (by omega) fun a b ha hb => ?_
    have h0 : ob 0 a b = false := Nat.zero_testBit _
    rw [h0, Bool.eq_false_iff]
    intro h1
    obtain ⟨h2, h3⟩ := clW_tight _ _ _ a b ha hb h1
    obtain ⟨h4, h5, _⟩ := (cone hp hi h2 h3).1 h1
    exact hn ⟨h4, h5⟩
  · rintro ⟨h1, h2⟩ h0
    have h3 := (cone hp hi h1 h2).2 ⟨h1, h2, hS.1 _ h1, hS.1 _ h2⟩
    rw [h0] at h3
    have h4 : ob 0 (i / 8) (i % 8) = false := Nat.zero_testBit _
    rw [h4] at h3
    cases h3
theorem cone_same {p : Nat} {S : Nat → Nat → Bool} (hp : p ≤ 8) (hS : Closed p S) {i j : Nat} (hi : i < 64) (hj : j < 64) (h1 : i / 8 < p) (h2 : i % 8 < p) (h3 : j / 8 < p) (h4 : j % 8 < p) :
    clW p S (MM.ofN [(j : Int)]) = clW p S (MM.ofN [(i : Int)]) ↔ (S (i / 8) (j / 8) = true ∧ S (j / 8) (i / 8) = true) ∧ S (i % 8) (j % 8) = true ∧ S (j % 8) (i % 8) = true := by
  constructor
  · intro h
    have h5 := (cone hp hi h1 h2).2 ⟨h1, h2, hS.1 _ h1, hS.1 _ h2⟩
    rw [← h] at h5
    obtain ⟨_, _, h6, h7⟩ := (cone hp hj h1 h2).1 h5
    have h8 := (cone hp hj h3 h4).2 ⟨h3, h4, hS.1 _ h3, hS.1 _ h4⟩
    rw [h] at h8
    obtain ⟨_, _, h9, h10⟩ := (cone hp hi h3 h4).1 h8
    exact ⟨⟨h6, h9⟩, h7, h10⟩
  · rintro ⟨⟨h5, h6⟩, h7, h8⟩
    refine ob_ext (clW_lt _ _ _) (clW_lt _ _ _) fun a b ha hb => ?_
    rw [Bool.eq_iff_iff]
    constructor
    · intro h
      obtain ⟨ha2, hb2⟩ := clW_tight _ _ _ a b ha hb h
      obtain ⟨_, _, h9, h10⟩ := (cone hp hj ha2 hb2).1 h
      exact (cone hp hi ha2 hb2).2 ⟨h1, h2, hS.2 _ _ _ ha2 h3 h1 h9 h6, hS.2 _ _ _ hb2 h4 h2 h10 h8⟩
    · intro h
      obtain ⟨ha2, hb2⟩ := clW_tight _ _ _ a b ha hb h
      obtain ⟨_, _, h9, h10⟩ := (cone hp hi ha2 hb2).1 h
      exact (cone hp hj ha2 hb2).2 ⟨h3, h4, hS.2 _ _ _ ha2 h1 h3 h9 h5, hS.2 _ _ _ hb2 h2 h4 h10 h7⟩
theorem fstB_no {S : Nat → Nat → Bool} {i : Nat} (h : fstB S i = false) : ∃ j, j < i ∧ S i j = true ∧ S j i = true := by
  unfold fstB at h
  rw [List.all_eq_false] at h
  obtain ⟨j, h1, h2⟩ := h
  have h3 : (S i j && S j i) = true := by simpa using h2
  rw [Bool.and_eq_true] at h3
  exact ⟨j, List.mem_range.1 h1, h3.1, h3.2⟩
theorem fstB_yes {S : Nat → Nat → Bool} {i j : Nat} (h : fstB S i = true) (hj : j < i) (h1 : S i j = true) (h2 : S j i = true) : False := by
  unfold fstB at h
  rw [List.all_eq_true] at h
  have := h j (List.mem_range.2 hj)
  rw [h1, h2] at this
  cases this
theorem new_eq {p : Nat} {S : Nat → Nat → Bool} (hp : p ≤ 8) (hS : Closed p S) {i : Nat} (hi : i < 64) :
    newB (fun i => clW p S (MM.ofN [(i : Int)])) i = ((decide (i / 8 < p) && fstB S (i / 8)) && (decide (i % 8 < p) && fstB S (i % 8))) := by
  rw [Bool.eq_iff_iff]
  unfold newB
  simp only [Bool.and_eq_true, bne_iff_ne, List.all_eq_true, List.mem_range, decide_eq_true_eq]
  rw [cone_zero hp hS hi]
  constructor
  · rintro ⟨⟨h1, h2⟩, h3⟩
    refine ⟨⟨h1, ?_⟩, h2, ?_⟩
    · cases h4 : fstB S (i / 8) with
      | true => rfl
      | false =>
        obtain ⟨q, h5, h6, h7⟩ := fstB_no h4
        exact absurd ((cone_same hp hS hi (j := 8 * q + i % 8) (by omega) h1 h2 (by omega) (by omega)).2 (by
          rw [show (8 * q + i % 8) / 8 = q by omega, show (8 * q + i % 8) % 8 = i % 8 by omega]
          exact ⟨⟨h6, h7⟩, hS.1 _ h2, hS.1 _ h2⟩)) (h3 _ (by omega))
    · cases h4 : fstB S (i % 8) with
      | true => rfl
      | false =>
        obtain ⟨q, h5, h6, h7⟩ := fstB_no h4
        exact absurd ((cone_same hp hS hi (j := 8 * (i / 8) + q) (by omega) h1 h2 (by omega) (by omega)).2 (by
          rw [show (8 * (i / 8) + q) / 8 = i / 8 by omega, show (8 * (i / 8) + q) % 8 = q by omega]
          exact ⟨⟨hS.1 _ h1, hS.1 _ h1⟩, h6, h7⟩)) (h3 _ (by omega))
  · rintro ⟨⟨h1, h2⟩, h3, h4⟩
    refine ⟨⟨h1, h3⟩, fun j hj he => ?_⟩
    have hz := (cone_zero (p := p) (S := S) hp hS hi).2 ⟨h1, h3⟩
    rw [← he] at hz
    obtain ⟨h5, h6⟩ := (cone_zero hp hS (by omega)).1 hz
    obtain ⟨⟨h7, h8⟩, h9, h10⟩ := (cone_same hp hS hi (by omega) h1 h3 h5 h6).1 he
    rcases Nat.lt_or_ge (j / 8) (i / 8) with h11 | h11
    · exact fstB_yes h2 h11 h7 h8
    · exact fstB_yes h4 (show j % 8 < i % 8 by omega) h9 h10
theorem height_count {p : Nat} {S : Nat → Nat → Bool} (hp : p ≤ 8) (hS : Closed p S) : (metF (fun i => clW p S (MM.ofN [(i : Int)])) 64).length = nCls p S * nCls p S := by
  have h := square_count (fun o => decide (o < p) && fstB S o) (fun o => decide (o < p) && fstB S o) 8
  rw [metF_len, List.filter_congr (fun i hi => new_eq hp hS (List.mem_range.1 hi)), show (64 : Nat) = 8 * 8 from rfl, h, count_low _ hp]
  rfl
end Go.Proofs.YtpgkcddhpeoiiaaDoor
