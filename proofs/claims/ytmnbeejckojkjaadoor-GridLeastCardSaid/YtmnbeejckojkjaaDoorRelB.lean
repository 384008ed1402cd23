/-
  What Has, add, clean and With of package relate return. Conditions: 64 words below 2^64.
-/
import Derived.Test.YtmnbeejckojkjaaDoorRelA
namespace Go.Proofs.YtmnbeejckojkjaaDoor
open Go.RowKit RM

theorem isPt_iff {n i : Int} : isPt n i = true ↔ 0 ≤ i ∧ i < (pts n : Int) := by simp [isPt]
theorem isPt_nat (n : Int) (i : Nat) : isPt n (i : Int) = decide (i < pts n) := by rw [Bool.eq_iff_iff, isPt_iff]; simp
/-- Is i below j? -/
def hasR (n : Int) (l : List Nat) (i j : Int) : Bool := isPt n i && isPt n j && bt l i.toNat j.toNat
/-- What add makes of the rows. -/
def addR (n : Int) (l : List Nat) (i j : Int) : List Nat := if isPt n i && isPt n j then l.set i.toNat (MM.withN (l.getD i.toNat 0) j) else l
theorem addR_no {n : Int} {l : List Nat} {i j : Int} (h : (isPt n i && isPt n j) = false) : addR n l i j = l := by unfold addR; rw [h]; simp
theorem rw_addR {l : List Nat} (h : RW l) (n i j : Int) : RW (addR n l i j) := by
  unfold addR
  split
  · exact h.set _ _ (MM.withN_lt (h.lt _) _)
  · exact h
theorem bt_addR {l : List Nat} (h : RW l) (n i j : Int) (a b : Nat) : bt (addR n l i j) a b = (bt l a b || (isPt n i && isPt n j && decide (i = (a : Int)) && decide (j = (b : Int)))) := by
  unfold addR
  have hp := pts_le n
  cases hi : isPt n i with
  | false => simp
  | true =>
    cases hj : isPt n j with
    | false => simp
    | true =>
      obtain ⟨h0, h1⟩ := isPt_iff.1 hi
      obtain ⟨h2, h3⟩ := isPt_iff.1 hj
      simp only [Bool.and_self, if_true, Bool.true_and]
      rw [bt_set h _ _ _ _ (by omega), MM.withN_bit]
      by_cases e : a = i.toNat
      · subst e
        rw [if_pos rfl]
        have : decide (i = (i.toNat : Int)) = true := by simp; omega
        rw [this]
        unfold bt
        congr 1
        rw [Bool.eq_iff_iff]
        simp; omega
      · rw [if_neg e]
        have : decide (i = (a : Int)) = false := by simp; omega
        rw [this]; simp
/-- add, at a relation in a block of its own. -/
theorem radd_any (g : Nat) (n : Int) (l : List Nat) (hl : RW l) (i j : Int) (w : World) (hg : RelAt w g n l) :
    Calls Tryd.prog 66 #[.pointer (some ⟨g, 0, none⟩), .int .i64 i, .int .i64 j] w fun e w' => e = .returned (.tuple #[]) ∧ RelAt w' g n (addR n l i j) ∧ Mut g w w' := by
  have hp := pts_le n
  cases hi : isPt n i with
  | false =>
    rw [addR_no (show (isPt n i && isPt n j) = false by rw [hi]; rfl)]
    have HI := Lib.hid hi; clear hi
    go_enter Tryd.func66, Tryd.ntmps66
    go_wp2_with (first | (refine wpList_loadRel rfl _ rfl g rfl n l hl hg ?_) | (go_at_call 73; refine (point_any _ _ _ _).mono ?_; rintro e w' ⟨rfl, hb⟩; rw [HI.out]))
    go_end0
    exact ⟨rfl, hg.below hb hg.lt, Mut.of_below hb g⟩
  | true =>
    obtain ⟨h0, h1⟩ := isPt_iff.1 hi
    obtain ⟨a, rfl⟩ := Int.eq_ofNat_of_zero_le h0
    have ha : a < 64 := by omega
    have HI := Lib.hid hi; clear hi h0 h1
    cases hj : isPt n j with
    | false =>
      rw [addR_no (show (isPt n a && isPt n j) = false by rw [hj]; simp)]
      have HJ := Lib.hid hj; clear hj
      go_enter Tryd.func66, Tryd.ntmps66
      go_wp2_with (refine wpList_loadRel rfl _ rfl g rfl n l hl hg ?_)
      refine (point_any _ _ _ _).mono ?_; rintro e w1 ⟨rfl, hb1⟩; rw [HI.out]
      have hr1 := hg.below hb1 hg.lt
      have HB1 := Lib.hid hb1; clear hb1
      go_wp2_with (refine wpList_loadRel rfl _ rfl g rfl n l hl hr1 ?_)
      refine (point_any _ _ _ _).mono ?_; rintro e w2 ⟨rfl, hb2⟩; rw [HJ.out]
      have hr2 := hr1.below hb2 hr1.lt
      have HB2 := Lib.hid hb2; clear hb2
      go_wp2_with fail
      go_end0
      exact ⟨rfl, hr2, (Mut.of_below HB1.out g).trans (Mut.of_below HB2.out g)⟩
    | true =>
      have HR : Hid (addR n l a j = l.set a (MM.withN (l.getD a 0) j)) := by unfold addR; rw [HI.out, hj]; rfl
      have HJ := Lib.hid hj; clear hj
      have hx := hl.lt a
      obtain ⟨x, he⟩ : ∃ x, x = l.getD a 0 := ⟨_, rfl⟩
      rw [← he] at hx
      have HE := Lib.hid he; clear he
      go_enter Tryd.func66, Tryd.ntmps66
      go_wp2_with (refine wpList_loadRel rfl _ rfl g rfl n l hl hg ?_)
      refine (point_any _ _ _ _).mono ?_; rintro e w1 ⟨rfl, hb1⟩; rw [HI.out]
      have hr1 := hg.below hb1 hg.lt
      have HB1 := Lib.hid hb1; clear hb1
      go_wp2_with (refine wpList_loadRel rfl _ rfl g rfl n l hl hr1 ?_)
      refine (point_any _ _ _ _).mono ?_; rintro e w2 ⟨rfl, hb2⟩; rw [HJ.out]
      have hr2 := hr1.below hb2 hr1.lt
      have HB2 := Lib.hid hb2; clear hb2
      have hc := hr2.cell hl a ha
      have hf := hr2.free (1 + a)
      rw [← HE.out] at hc
      have ha' : (a : Int) < 64 := by omega
      go_wp2_with fail
      refine wp_region_still_tail 13 (by kernel_rfl) (by kernel_rfl) ?_
      simp only [List.take_succ_cons, List.take_zero, List.drop_succ_cons, List.drop_zero]
      repeat still_step
      still_call (still_of (with_any x hx _ _))
      repeat still_step
      refine wpStill_nil ?_
      go_wp2_with fail
      go_end0
      refine ⟨rfl, ?_, ?_⟩
      · rw [HR.out, ← HE.out]
        exact (hr2.drewN 1).put a _
      · exact (((Mut.of_below HB1.out g).trans (Mut.of_below HB2.out g)).drew).trans (Mut.of_set _ g _ _)
end Go.Proofs.YtmnbeejckojkjaaDoor
