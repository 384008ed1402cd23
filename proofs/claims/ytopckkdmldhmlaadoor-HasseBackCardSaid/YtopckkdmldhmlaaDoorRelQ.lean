/-
  RelateImages holds. Conditions: 64 words below 2^64; the table of math/bits in memory.
-/
import Derived.Test.YtopckkdmldhmlaaDoorRelP
namespace Go.Proofs.YtopckkdmldhmlaaDoor
open Go.RowKit RM

theorem hasN_iff {s : Nat} {i : Int} : MM.hasN s i = true ↔ ∃ k : Nat, i = (k : Int) ∧ k < 64 ∧ s.testBit k = true := by
  unfold MM.hasN
  rw [Bool.and_eq_true, decide_eq_true_eq]
  constructor
  · rintro ⟨⟨h0, h1⟩, h2⟩
    exact ⟨i.toNat, by omega, by omega, h2⟩
  · rintro ⟨k, rfl, hk, h2⟩
    exact ⟨by omega, by simpa using h2⟩
theorem hasR_iff {n : Int} {l : List Nat} {i j : Int} : hasR n l i j = true ↔ ∃ a b : Nat, i = (a : Int) ∧ j = (b : Int) ∧ a < pts n ∧ b < pts n ∧ bt l a b = true := by
  unfold hasR
  rw [Bool.and_eq_true, Bool.and_eq_true, isPt_iff, isPt_iff]
  constructor
  · rintro ⟨⟨h1, h2⟩, h3⟩
    exact ⟨i.toNat, j.toNat, by omega, by omega, by omega, by omega, h3⟩
  · rintro ⟨a, b, rfl, rfl, ha, hb, h3⟩
    exact ⟨⟨by omega, by omega⟩, by simpa using h3⟩
theorem up_eq (n : Int) (l : List Nat) (s : Nat) (i : Int) : MM.hasN (abv (cl n l) s) i = (MM.els s).any fun t => hasR n l (t : Int) i := by
  have hp := pts_le n
  rw [Bool.eq_iff_iff, hasN_iff, List.any_eq_true]
  constructor
  · rintro ⟨k, rfl, _, h⟩
    obtain ⟨t, ht, h1, h2⟩ := (abv_bit _ _ _).1 h
    rw [bt_cl, Bool.and_eq_true, Bool.and_eq_true, decide_eq_true_eq, decide_eq_true_eq] at h2
    exact ⟨t, MM.mem_els.2 ⟨ht, h1⟩, hasR_iff.2 ⟨t, k, rfl, rfl, h2.1.1, h2.1.2, h2.2⟩⟩
  · rintro ⟨t, ht, h⟩
    obtain ⟨a, b, e, rfl, ha, hb, h2⟩ := hasR_iff.1 h
    obtain rfl : t = a := by omega
    obtain ⟨h3, h4⟩ := MM.mem_els.1 ht
    exact ⟨b, rfl, by omega, (abv_bit _ _ _).2 ⟨t, h3, h4, by rw [bt_cl]; simp [ha, hb, h2]⟩⟩
theorem down_eq (n : Int) (l : List Nat) (s : Nat) (i : Int) : MM.hasN (blw (cl n l) s (pts n)) i = (MM.els s).any fun t => hasR n l i (t : Int) := by
  have hp := pts_le n
  rw [Bool.eq_iff_iff, hasN_iff, List.any_eq_true]
  constructor
  · rintro ⟨k, rfl, _, h⟩
    rw [blw_bit, Bool.and_eq_true, Bool.and_eq_true, decide_eq_true_eq, decide_eq_true_eq] at h
    obtain ⟨t, ht, h1, h2⟩ := (and_ne ((RW.mk (pts n) (bt l)).lt k)).1 h.2.2
    have h3 : bt (cl n l) k t = true := h1
    rw [bt_cl, Bool.and_eq_true, Bool.and_eq_true, decide_eq_true_eq, decide_eq_true_eq] at h3
    exact ⟨t, MM.mem_els.2 ⟨ht, h2⟩, hasR_iff.2 ⟨k, t, rfl, rfl, h3.1.1, h3.1.2, h3.2⟩⟩
  · rintro ⟨t, ht, h⟩
    obtain ⟨a, b, rfl, e, ha, hb, h2⟩ := hasR_iff.1 h
    obtain rfl : t = b := by omega
    obtain ⟨h3, h4⟩ := MM.mem_els.1 ht
    refine ⟨a, rfl, by omega, ?_⟩
    rw [blw_bit, Bool.and_eq_true, Bool.and_eq_true, decide_eq_true_eq, decide_eq_true_eq]
    exact ⟨by omega, ha, (and_ne ((RW.mk (pts n) (bt l)).lt a)).2 ⟨t, h3, by show bt (cl n l) a t = true; rw [bt_cl]; simp [ha, hb, h2], h4⟩⟩
theorem any_take {f : Nat → Bool} (xs : List Nat) (k : Nat) (h : k < xs.length) : (xs.take (k + 1)).any f = ((xs.take k).any f || f (xs.getD k 0)) := by
  rw [List.take_succ_eq_append_getElem h, List.any_append, List.getD_eq_getElem?_getD, List.getElem?_eq_getElem h]; simp
theorem ei_getD (xs : List Nat) (k : Nat) (h : k < xs.length) : (ei xs).getD k 0 = ((xs.getD k 0 : Nat) : Int) := by simp [ei, List.getD_eq_getElem?_getD, List.getElem?_eq_getElem h]

end Go.Proofs.YtopckkdmldhmlaaDoor
